/- The program's calls that ask a tree: Root, All, Parent, Kids, Depth, Path, Within; no condition but those that each row names. -/
import Derived.Test.YtlcdbblbepndoaaDoorVPart
namespace Go.Proofs.YtlcdbblbepndoaaDoor
open Go.RowKit Tr

section
variable {T : Nat → Prop} {B : Nat} {A : Tab} {X : Sh} {bt b : Nat}

theorem look1_yes (hA : A.Good) (w : World) (h : TR T B w A bt b) (x : Int) (i : Nat) (hf : A.find x = some i) :
    Calls Tryd.prog 26 #[.pointer (some ⟨bt, 0, none⟩), .slice (some ⟨w.heap.size, 0, none⟩) 1 1] (w.alloc (.cells #[.int .i64 x] 33)) fun e w' => e = .returned .nilIface ∧ Below w.heap.size w w' := by
  have hb := (Below.refl w.heap.size w).alloc (Nat.le_refl _) (.cells #[.int .i64 x] 33)
  refine (tlook T B A hA _ bt b (h.below hb) _ [x] (one_lst w x _)).mono ?_
  rintro e w' ⟨rfl, hb2⟩
  exact ⟨by rw [look_yes (fun y hy => by simp at hy; subst hy; exact ⟨i, hf⟩)], bnext hb hb2⟩
theorem look1_no (hA : A.Good) (w : World) (h : TR T B w A bt b) (x : Int) (hf : A.find x = none) :
    Calls Tryd.prog 26 #[.pointer (some ⟨bt, 0, none⟩), .slice (some ⟨w.heap.size, 0, none⟩) 1 1] (w.alloc (.cells #[.int .i64 x] 33)) fun e w' => e = .returned (.iface 68 (.int .i64 20)) ∧ Below w.heap.size w w' := by
  have hb := (Below.refl w.heap.size w).alloc (Nat.le_refl _) (.cells #[.int .i64 x] 33)
  refine (tlook T B A hA _ bt b (h.below hb) _ [x] (one_lst w x _)).mono ?_
  rintro e w' ⟨rfl, hb2⟩
  exact ⟨by rw [look_no ⟨x, by simp, hf⟩], bnext hb hb2⟩
theorem look2_yes (hA : A.Good) (w : World) (h : TR T B w A bt b) (x y : Int) (i j : Nat) (hf : A.find x = some i) (hg : A.find y = some j) :
    Calls Tryd.prog 26 #[.pointer (some ⟨bt, 0, none⟩), .slice (some ⟨w.heap.size, 0, none⟩) 2 2] (w.alloc (.cells #[.int .i64 x, .int .i64 y] 33)) fun e w' => e = .returned .nilIface ∧ Below w.heap.size w w' := by
  have hb := (Below.refl w.heap.size w).alloc (Nat.le_refl _) (.cells #[.int .i64 x, .int .i64 y] 33)
  refine (tlook T B A hA _ bt b (h.below hb) _ [x, y] (two_lst w x y _)).mono ?_
  rintro e w' ⟨rfl, hb2⟩
  exact ⟨by rw [look_yes (fun z hz => by simp at hz; rcases hz with rfl | rfl; exact ⟨i, hf⟩; exact ⟨j, hg⟩)], bnext hb hb2⟩
theorem look2_no (hA : A.Good) (w : World) (h : TR T B w A bt b) (x y : Int) (hf : A.find x = none ∨ A.find y = none) :
    Calls Tryd.prog 26 #[.pointer (some ⟨bt, 0, none⟩), .slice (some ⟨w.heap.size, 0, none⟩) 2 2] (w.alloc (.cells #[.int .i64 x, .int .i64 y] 33)) fun e w' => e = .returned (.iface 68 (.int .i64 20)) ∧ Below w.heap.size w w' := by
  have hb := (Below.refl w.heap.size w).alloc (Nat.le_refl _) (.cells #[.int .i64 x, .int .i64 y] 33)
  refine (tlook T B A hA _ bt b (h.below hb) _ [x, y] (two_lst w x y _)).mono ?_
  rintro e w' ⟨rfl, hb2⟩
  exact ⟨by rw [look_no (by rcases hf with hf | hf; exact ⟨x, by simp, hf⟩; exact ⟨y, by simp, hf⟩)], bnext hb hb2⟩

theorem root_any (bt : Nat) (w : World) : Calls Tryd.prog 15 #[.pointer (some ⟨bt, 0, none⟩)] w fun e w' => e = .returned (.int .i64 1099511627777) ∧ w = w' := by
  have HM := Lib.hid (fun w => make_ok 1 0 1 w ⟨by omega, by omega, by omega, by omega, by omega, by omega⟩)
  rw [show mkH 1 0 1 = 1099511627777 from rfl] at HM
  go_enter Tryd.func15, Tryd.ntmps15
  go_wp2_with fail
  refine (HM.out _).mono ?_
  rintro e w1 ⟨rfl, rfl⟩
  go_wp2_with fail
  go_ret
  exact ⟨rfl, rfl⟩
theorem all_any (hR : Rel A X) (w : World) (h : TR T B w A bt b) : Calls Tryd.prog 13 #[.pointer (some ⟨bt, 0, none⟩)] w (RowPost w ((X.pt 0).map A.hd)) := by
  have HRT := Lib.hid (root_any bt)
  have HP := Lib.hid (tpart T B A X hR bt b 0 hR.tree.t0 w h)
  rw [hR.root] at HP
  clear h hR
  generalize (X.pt 0).map A.hd = L at *
  go_enter Tryd.func13, Tryd.ntmps13
  go_wp2_with fail
  refine (HRT.out _).mono ?_
  rintro e w1 ⟨rfl, rfl⟩
  go_wp2_with fail
  refine HP.out.mono ?_
  rintro e w1 ⟨v, rfl, ho, hb⟩
  obtain ⟨p, cp, rfl⟩ := ho.shape
  go_wp2_with fail
  go_ret
  exact ⟨_, rfl, ho, hb⟩

-- Parent
theorem parent_no (hA : A.Good) (w : World) (h : TR T B w A bt b) (x : Int) (hf : A.find x = none) :
    Calls Tryd.prog 30 #[.pointer (some ⟨bt, 0, none⟩), .int .i64 x] w fun e w' => e = .returned (.tuple #[.int .i64 0, .iface 68 (.int .i64 20)]) ∧ Below w.heap.size w w' := by
  have HL := Lib.hid (look1_no hA w h x hf)
  clear h hA hf
  go_enter Tryd.func30, Tryd.ntmps30
  go_wp2_with fail
  refine HL.out.mono ?_
  rintro e w1 ⟨rfl, hb⟩
  go_wp2_with fail
  go_ret2
  exact ⟨rfl, hb⟩
theorem parent_yes (hA : A.Good) (w : World) (h : TR T B w A bt b) (x : Int) (i : Nat) (hf : A.find x = some i) :
    Calls Tryd.prog 30 #[.pointer (some ⟨bt, 0, none⟩), .int .i64 x] w fun e w' => e = .returned (.tuple #[.int .i64 (getV A x), .nilIface]) ∧ Below w.heap.size w w' := by
  have HL := Lib.hid (look1_yes hA w h x i hf)
  have HP := Lib.hid (fun w1 (hb : Below w.heap.size w w1) => tparent T B A hA w1 bt b (h.below hb) x)
  generalize getV A x = y at *
  clear h hA hf
  go_enter Tryd.func30, Tryd.ntmps30
  go_wp2_with fail
  refine HL.out.mono ?_
  rintro e w1 ⟨rfl, hb⟩
  go_wp2_with fail
  refine (HP.out w1 hb).mono ?_
  rintro e w2 ⟨rfl, hb2⟩
  have hb3 := bnext hb hb2
  go_wp2_with fail
  go_ret2
  exact ⟨rfl, hb3⟩

/-- What is answered of a row and no error. -/
def RowsPost (w : World) (l : List Int) (e : Ending) (w' : World) : Prop := ∃ v, e = .returned (.tuple #[v, .nilIface]) ∧ OwnH w.heap.size w' v l ∧ Below w.heap.size w w'

-- Kids
theorem kids_no (hA : A.Good) (w : World) (h : TR T B w A bt b) (x : Int) (hf : A.find x = none) :
    Calls Tryd.prog 32 #[.pointer (some ⟨bt, 0, none⟩), .int .i64 x] w fun e w' => e = .returned (.tuple #[.slice none 0 0, .iface 68 (.int .i64 20)]) ∧ Below w.heap.size w w' := by
  have HL := Lib.hid (look1_no hA w h x hf)
  clear h hA hf
  go_enter Tryd.func32, Tryd.ntmps32
  go_wp2_with fail
  refine HL.out.mono ?_
  rintro e w1 ⟨rfl, hb⟩
  go_wp2_with fail
  go_ret2
  exact ⟨rfl, hb⟩
theorem kids_yes (hR : Rel A X) (w : World) (h : TR T B w A bt b) (i : Nat) (hi : X.t i = true) :
    Calls Tryd.prog 32 #[.pointer (some ⟨bt, 0, none⟩), .int .i64 (A.hd i)] w (RowsPost w ((X.kids i).map A.hd)) := by
  have HL := Lib.hid (look1_yes hR.good w h _ i (hR.find hi))
  have HK := Lib.hid (fun w1 (hb : Below w.heap.size w w1) => show Calls Tryd.prog 53 #[.pointer (some ⟨bt, 0, none⟩), .int .i64 (A.hd i)] w1 (RowPost w1 ((X.kids i).map A.hd)) from by
    rw [← hR.kids hi]; exact tkids T B A hR.good w1 bt b (h.below hb) (A.hd i))
  clear h hR hi
  generalize (X.kids i).map A.hd = L at *
  generalize A.hd i = y at *
  go_enter Tryd.func32, Tryd.ntmps32
  go_wp2_with fail
  refine HL.out.mono ?_
  rintro e w1 ⟨rfl, hb⟩
  go_wp2_with fail
  refine (HK.out w1 hb).mono ?_
  rintro e w2 ⟨v, rfl, ho, hb2⟩
  obtain ⟨p, cp, rfl⟩ := ho.shape
  have hb3 := bnext hb hb2
  have ho2 := ho.base hb.size
  go_wp2_with fail
  go_ret2
  exact ⟨_, rfl, ho2, hb3⟩

-- Depth
theorem depth_no (hA : A.Good) (w : World) (h : TR T B w A bt b) (x : Int) (hf : A.find x = none) :
    Calls Tryd.prog 21 #[.pointer (some ⟨bt, 0, none⟩), .int .i64 x] w fun e w' => e = .returned (.tuple #[.int .i64 0, .iface 68 (.int .i64 20)]) ∧ Below w.heap.size w w' := by
  have HL := Lib.hid (look1_no hA w h x hf)
  clear h hA hf
  go_enter Tryd.func21, Tryd.ntmps21
  go_wp2_with fail
  refine HL.out.mono ?_
  rintro e w1 ⟨rfl, hb⟩
  go_wp2_with fail
  go_ret2
  exact ⟨rfl, hb⟩
theorem depth_yes (hR : Rel A X) (w : World) (h : TR T B w A bt b) (i : Nat) (hi : X.t i = true) :
    Calls Tryd.prog 21 #[.pointer (some ⟨bt, 0, none⟩), .int .i64 (A.hd i)] w fun e w' => e = .returned (.tuple #[.int .i64 (X.d i : Nat), .nilIface]) ∧ Below w.heap.size w w' := by
  have HL := Lib.hid (look1_yes hR.good w h _ i (hR.find hi))
  have HP := Lib.hid (fun w1 (hb : Below w.heap.size w w1) => tpath T B A X hR w1 bt b (h.below hb) i hi)
  have hl : ((X.path i).map A.hd).length = X.d i + 1 := by rw [List.length_map, path_len]
  have hd8 := hR.tree.d8 i hi
  clear h hR hi
  generalize (X.path i).map A.hd = L at *
  generalize X.d i = n at *
  generalize A.hd i = y at *
  go_enter Tryd.func21, Tryd.ntmps21
  go_wp2_with fail
  refine HL.out.mono ?_
  rintro e w1 ⟨rfl, hb⟩
  go_wp2_with fail
  refine (HP.out w1 hb).mono ?_
  rintro e w2 ⟨v, rfl, ho, hb2⟩
  obtain ⟨p, cp, hv⟩ := ho.shape
  rw [hl] at hv
  subst hv
  have hb3 := bnext hb hb2
  clear ho hl
  go_wp2_with fail
  go_ret2
  exact ⟨by congr 4, hb3⟩

-- Path
theorem path_no (hA : A.Good) (w : World) (h : TR T B w A bt b) (x : Int) (hf : A.find x = none) :
    Calls Tryd.prog 35 #[.pointer (some ⟨bt, 0, none⟩), .int .i64 x] w fun e w' => e = .returned (.tuple #[.slice none 0 0, .iface 68 (.int .i64 20)]) ∧ Below w.heap.size w w' := by
  have HL := Lib.hid (look1_no hA w h x hf)
  clear h hA hf
  go_enter Tryd.func35, Tryd.ntmps35
  go_wp2_with fail
  refine HL.out.mono ?_
  rintro e w1 ⟨rfl, hb⟩
  go_wp2_with fail
  go_ret2
  exact ⟨rfl, hb⟩
theorem path_yes (hR : Rel A X) (w : World) (h : TR T B w A bt b) (i : Nat) (hi : X.t i = true) :
    Calls Tryd.prog 35 #[.pointer (some ⟨bt, 0, none⟩), .int .i64 (A.hd i)] w (RowsPost w ((X.path i).map A.hd)) := by
  have HL := Lib.hid (look1_yes hR.good w h _ i (hR.find hi))
  have HP := Lib.hid (fun w1 (hb : Below w.heap.size w w1) => tpath T B A X hR w1 bt b (h.below hb) i hi)
  clear h hR hi
  generalize (X.path i).map A.hd = L at *
  generalize A.hd i = y at *
  go_enter Tryd.func35, Tryd.ntmps35
  go_wp2_with fail
  refine HL.out.mono ?_
  rintro e w1 ⟨rfl, hb⟩
  go_wp2_with fail
  refine (HP.out w1 hb).mono ?_
  rintro e w2 ⟨v, rfl, ho, hb2⟩
  obtain ⟨p, cp, rfl⟩ := ho.shape
  have hb3 := bnext hb hb2
  have ho2 := ho.base hb.size
  go_wp2_with fail
  go_ret2
  exact ⟨_, rfl, ho2, hb3⟩

-- Within
theorem within_no (hA : A.Good) (w : World) (h : TR T B w A bt b) (x y : Int) (hf : A.find x = none ∨ A.find y = none) :
    Calls Tryd.prog 37 #[.pointer (some ⟨bt, 0, none⟩), .int .i64 x, .int .i64 y] w fun e w' => e = .returned (.tuple #[.bool false, .iface 68 (.int .i64 20)]) ∧ Below w.heap.size w w' := by
  have HL := Lib.hid (look2_no hA w h x y hf)
  clear h hA hf
  go_enter Tryd.func37, Tryd.ntmps37
  go_wp2_with fail
  refine HL.out.mono ?_
  rintro e w1 ⟨rfl, hb⟩
  go_wp2_with fail
  go_ret2
  exact ⟨rfl, hb⟩
theorem within_yes (hR : Rel A X) (w : World) (h : TR T B w A bt b) (i j : Nat) (hi : X.t i = true) (hj : X.t j = true) :
    Calls Tryd.prog 37 #[.pointer (some ⟨bt, 0, none⟩), .int .i64 (A.hd i), .int .i64 (A.hd j)] w fun e w' => e = .returned (.tuple #[.bool (decide (i ∈ X.pt j)), .nilIface]) ∧ Below w.heap.size w w' := by
  have HL := Lib.hid (look2_yes hR.good w h _ _ i j (hR.find hi) (hR.find hj))
  have HP := Lib.hid (fun w1 (hb : Below w.heap.size w w1) => tpath T B A X hR w1 bt b (h.below hb) i hi)
  have hl : ((X.path i).map A.hd).length ≤ 9 := by have := hR.tree.d8 i hi; rw [List.length_map, path_len]; omega
  have HE := Lib.hid (show decide (A.hd j ∈ (X.path i).map A.hd) = decide (i ∈ X.pt j) from decide_eq_decide.2 (by
    rw [pt_iff hR.tree hj, List.mem_map]
    unfold Sh.path
    constructor
    · rintro ⟨k, hk, e⟩
      have hk := List.mem_reverse.1 hk
      have := hR.inj (back_mem hR.tree i hi k hk).1 hj e
      subst this
      exact ⟨hi, hk⟩
    · rintro ⟨_, hk⟩
      exact ⟨j, List.mem_reverse.2 hk, rfl⟩))
  have HC := Lib.hid (fun v w1 (hv : Lst (fun _ => False) w1 v (ints ((X.path i).map A.hd))) => contains_any (fun _ => False) ((X.path i).map A.hd) (A.hd j) v w1 hv)
  generalize decide (i ∈ X.pt j) = r at *
  clear h hR hi hj
  generalize (X.path i).map A.hd = L at *
  generalize A.hd i = y at *
  generalize A.hd j = z at *
  generalize decide (z ∈ L) = r2 at *
  go_enter Tryd.func37, Tryd.ntmps37
  go_wp2_with fail
  refine HL.out.mono ?_
  rintro e w1 ⟨rfl, hb⟩
  go_wp2_with fail
  refine (HP.out w1 hb).mono ?_
  rintro e w2 ⟨v, rfl, ho, hb2⟩
  obtain ⟨p, cp, rfl⟩ := ho.shape
  have HO := Lib.hid (ho.lst (by omega))
  have hb3 := bnext hb hb2
  clear ho hb2
  go_wp2_with fail
  refine (HC.out _ _ HO.out).mono ?_
  rintro e w3 ⟨rfl, rfl⟩
  go_wp2_with fail
  go_ret2
  exact ⟨by rw [HE.out]; rfl, hb3⟩
end
end Go.Proofs.YtlcdbblbepndoaaDoor
