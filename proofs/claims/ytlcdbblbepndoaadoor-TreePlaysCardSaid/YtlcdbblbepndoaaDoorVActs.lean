/- The program's calls that turn a tree, New, Add, Remove; no condition but those that each row names. -/
import Derived.Test.YtlcdbblbepndoaaDoorVOps
import Derived.Test.YtlcdbblbepndoaaDoorVNewP
namespace Go.Proofs.YtlcdbblbepndoaaDoor
open Go.RowKit Tr

section
variable {T : Nat → Prop} {B : Nat} {A : Tab} {X : Sh} {bt b : Nat}

-- what turns
/-- What is answered of a tree that has turned. -/
def TAct (T : Nat → Prop) (B : Nat) (w : World) (A' : Tab) (bt b : Nat) (r : Value) (e : Ending) (w' : World) : Prop := e = .returned r ∧ TR T B w' A' bt b ∧ Keeps T w w'
theorem TR.turn {A' : Tab} {w w' : World} (h : TR T B w A bt b) (hp : PTab T B w' A' (.pointer (some ⟨b, 0, none⟩))) (hk : Keeps T w w') : TR T B w' A' bt b :=
  ⟨(hk.cell (p := ⟨bt, 0, none⟩) h.lt h.nt).trans h.c, hp, h.hb, h.nt⟩

theorem addT_no (hA : A.Good) (w : World) (h : TR T B w A bt b) (x : Int) (hf : A.find x = none) :
    Calls Tryd.prog 6 #[.pointer (some ⟨bt, 0, none⟩), .int .i64 x] w (TAct T B w A bt b (.tuple #[.int .i64 0, .iface 68 (.int .i64 20)])) := by
  have HD := Lib.hid (depth_no hA w h x hf)
  have HH := Lib.hid h
  clear h hA hf
  go_enter Tryd.func6, Tryd.ntmps6
  go_wp2_with fail
  refine HD.out.mono ?_
  rintro e w1 ⟨rfl, hb⟩
  go_wp2_with fail
  go_ret2
  exact ⟨rfl, HH.out.below hb, Keeps.of_below hb⟩
theorem addT_deep (hR : Rel A X) (w : World) (h : TR T B w A bt b) (p : Nat) (hp : X.t p = true) (hd : X.d p = 8) :
    Calls Tryd.prog 6 #[.pointer (some ⟨bt, 0, none⟩), .int .i64 (A.hd p)] w (TAct T B w A bt b (.tuple #[.int .i64 0, .iface 68 (.int .i64 90)])) := by
  have HD := Lib.hid (depth_yes hR w h p hp)
  rw [hd] at HD
  have HH := Lib.hid h
  generalize A.hd p = y at *
  clear h hR hp hd
  go_enter Tryd.func6, Tryd.ntmps6
  go_wp2_with fail
  refine HD.out.mono ?_
  rintro e w1 ⟨rfl, hb⟩
  go_wp2_with fail
  go_ret2
  exact ⟨rfl, HH.out.below hb, Keeps.of_below hb⟩
theorem addT_full (hR : Rel A X) (w : World) (h : TR T B w A bt b) (p : Nat) (hp : X.t p = true) (hd : X.d p < 8) (hf : A.free = none) :
    Calls Tryd.prog 6 #[.pointer (some ⟨bt, 0, none⟩), .int .i64 (A.hd p)] w (TAct T B w A bt b (.tuple #[.int .i64 0, .iface 68 (.int .i64 30)])) := by
  have HD := Lib.hid (depth_yes hR w h p hp)
  have HA := Lib.hid (fun w1 (hb : Below w.heap.size w w1) => padd_none T B A hR.good w1 _ (h.below hb).p (A.hd p) hf)
  have HC := Lib.hid (fun w1 (hb : Below w.heap.size w w1) => (h.below hb).c)
  have HH := Lib.hid h
  generalize A.hd p = y at *
  generalize X.d p = n at *
  have hq : ((n : Int) == 8) = false := by simp; omega
  clear h hR hp
  go_enter Tryd.func6, Tryd.ntmps6
  go_wp2_with fail
  refine HD.out.mono ?_
  rintro e w1 ⟨rfl, hb⟩
  have c1 := HC.out w1 hb
  go_wp2_with fail
  refine (HA.out w1 hb).mono ?_
  rintro e w2 ⟨rfl, hp2, hk2⟩
  have H2 := Lib.hid ((HH.out.below hb).turn hp2 hk2)
  have HK := Lib.hid ((Keeps.of_below (S := T) hb).trans hk2)
  clear hp2 hk2 c1
  rw [errV_ne (by omega)]
  go_wp2_with fail
  go_ret2
  exact ⟨rfl, H2.out, HK.out⟩
theorem addT_yes (hR : Rel A X) (w : World) (h : TR T B w A bt b) (p s : Nat) (hp : X.t p = true) (hd : X.d p < 8) (hf : A.free = some s) :
    Calls Tryd.prog 6 #[.pointer (some ⟨bt, 0, none⟩), .int .i64 (A.hd p)] w (TAct T B w (A.addAt s (A.hd p)) bt b (.tuple #[.int .i64 (A.hd s), .nilIface])) := by
  have HD := Lib.hid (depth_yes hR w h p hp)
  have HA := Lib.hid (fun w1 (hb : Below w.heap.size w w1) => padd_some T B A hR.good w1 _ (h.below hb).p (A.hd p) s hf)
  have HC := Lib.hid (fun w1 (hb : Below w.heap.size w w1) => (h.below hb).c)
  have HH := Lib.hid h
  generalize A.hd p = y at *
  generalize A.hd s = z at *
  generalize X.d p = n at *
  generalize A.addAt s y = A2 at *
  have hq : ((n : Int) == 8) = false := by simp; omega
  clear h hR hp
  go_enter Tryd.func6, Tryd.ntmps6
  go_wp2_with fail
  refine HD.out.mono ?_
  rintro e w1 ⟨rfl, hb⟩
  have c1 := HC.out w1 hb
  go_wp2_with fail
  refine (HA.out w1 hb).mono ?_
  rintro e w2 ⟨rfl, hp2, hk2⟩
  have H2 := Lib.hid ((HH.out.below hb).turn hp2 hk2)
  have HK := Lib.hid ((Keeps.of_below (S := T) hb).trans hk2)
  clear hp2 hk2 c1
  go_wp2_with fail
  go_ret2
  exact ⟨rfl, H2.out, HK.out⟩

-- Remove
theorem remT_no (hA : A.Good) (w : World) (h : TR T B w A bt b) (x : Int) (hf : A.find x = none) :
    Calls Tryd.prog 9 #[.pointer (some ⟨bt, 0, none⟩), .int .i64 x] w (TAct T B w A bt b (.tuple #[.slice none 0 0, .iface 68 (.int .i64 20)])) := by
  have HL := Lib.hid (look1_no hA w h x hf)
  have HH := Lib.hid h
  clear h hA hf
  go_enter Tryd.func9, Tryd.ntmps9
  go_wp2_with fail
  refine HL.out.mono ?_
  rintro e w1 ⟨rfl, hb⟩
  go_wp2_with fail
  go_ret2
  exact ⟨rfl, HH.out.below hb, Keeps.of_below hb⟩
theorem remT_root (hR : Rel A X) (w : World) (h : TR T B w A bt b) :
    Calls Tryd.prog 9 #[.pointer (some ⟨bt, 0, none⟩), .int .i64 (A.hd 0)] w (TAct T B w A bt b (.tuple #[.slice none 0 0, .iface 68 (.int .i64 91)])) := by
  have HL := Lib.hid (look1_yes hR.good w h _ 0 (hR.find hR.tree.t0))
  have HRT := Lib.hid (root_any bt)
  rw [hR.root] at HL ⊢
  have HH := Lib.hid h
  clear h hR
  go_enter Tryd.func9, Tryd.ntmps9
  go_wp2_with fail
  refine HL.out.mono ?_
  rintro e w1 ⟨rfl, hb⟩
  go_wp2_with fail
  refine (HRT.out _).mono ?_
  rintro e w2 ⟨rfl, rfl⟩
  go_wp2_with fail
  go_ret2
  exact ⟨rfl, HH.out.below hb, Keeps.of_below hb⟩
/-- What Remove answers where it removes. -/
def RemPost (T : Nat → Prop) (B : Nat) (w : World) (A' : Tab) (bt b : Nat) (l : List Int) (e : Ending) (w' : World) : Prop := ∃ v, e = .returned (.tuple #[v, .nilIface]) ∧ OwnH w.heap.size w' v l ∧ TR T B w' A' bt b ∧ Keeps T w w'
set_option maxHeartbeats 1000000 in
set_option maxRecDepth 100000 in
theorem remT_yes (hR : Rel A X) (w : World) (h : TR T B w A bt b) (i : Nat) (hi : X.t i = true) (h0 : i ≠ 0) :
    Calls Tryd.prog 9 #[.pointer (some ⟨bt, 0, none⟩), .int .i64 (A.hd i)] w (RemPost T B w (dropAll A (X.pt i)) bt b ((X.pt i).map A.hd)) := by
  have HL := Lib.hid (look1_yes hR.good w h _ i (hR.find hi))
  have HRT := Lib.hid (root_any bt)
  have HP := Lib.hid (fun w1 (hb : Below w.heap.size w w1) => tpart T B A X hR bt b i hi w1 (h.below hb))
  have hq : (A.hd i == 1099511627777) = false := by
    rw [beq_eq_false_iff_ne, ← hR.root]
    exact fun e => h0 (hR.inj hi hR.tree.t0 e)
  have hl64 := pt_len hR.tree hi
  have HN := Lib.hid (pt_nodup hR.tree i hi)
  have HM := Lib.hid (show ∀ x ∈ X.pt i, x < A.gens.length ∧ A.t x = true from fun x hx => by
    have hx' := (pt_back hR.tree i hi x hx).1
    exact ⟨hR.lt hx', by rw [hR.t]; exact hx'⟩)
  have HG := Lib.hid hR.good
  have HTL := Lib.hid h.p.lt
  have HH := Lib.hid h
  generalize X.pt i = L at *
  generalize A.hd i = y at *
  clear h hR hi h0
  go_enter Tryd.func9, Tryd.ntmps9
  go_wp2_with fail
  refine HL.out.mono ?_
  rintro e w1 ⟨rfl, hb⟩
  go_wp2_with fail
  refine (HRT.out _).mono ?_
  rintro e w2 ⟨rfl, rfl⟩
  go_wp2_with fail
  refine (HP.out w1 hb).mono ?_
  rintro e w2 ⟨v, rfl, ho, hb2⟩
  have HO := Lib.hid (fun w3 (hk : Keeps T w2 w3) => (ho.base hb.size).keeps hk (fun x hx => (HTL.out x hx).2))
  obtain ⟨p, cp, hv⟩ := ho.shape
  rw [List.length_map] at hv
  subst hv
  have HB2 := Lib.hid (bnext hb hb2)
  clear ho hb hb2
  go_wp2_with fail
  go_loopw [27] (fun iv wr => ∃ k : Nat, k ≤ L.length ∧ iv = .int .i64 k ∧ Hid (TR T B wr (dropAll A (L.take k)) bt b) ∧ Hid (Keeps T w2 wr)) (fun iv _ => L.length - (intOf iv).toNat)
  case atStart => exact ⟨0, Nat.zero_le _, rfl, Lib.hid (HH.out.below HB2.out), Lib.hid (Keeps.refl _ _)⟩
  case round =>
    obtain ⟨k, hk, rfl, HT, HK⟩ := hrel
    by_cases hlt : k < L.length
    · obtain ⟨_, _, hsl, _, hcs⟩ := (HO.out wr HK.out).lst (by rw [List.length_map]; omega)
      injection hsl with hs1 hs2 hs3
      subst hs1 hs3
      obtain ⟨g, off, rfl, _, hc⟩ := hcs k _ (ints_at (by rw [List.length_map]; exact hlt))
      have hgd : (L.map A.hd).getD k 0 = A.hd L[k] := by simp [List.getD_eq_getElem?_getD, hlt]
      rw [hgd] at hc
      have hm := HM.out L[k] (List.getElem_mem hlt)
      have hD := dropped_take HG.out HN.out HM.out k (by omega)
      have hf := hD.find HG.out (take_not HN.out hlt) hm.1 hm.2
      have HC := Lib.hid (pdrop_some T B _ hD.good wr _ HT.out.p _ _ hf)
      have HE := Lib.hid (show dropAll A (L.take (k + 1)) = (dropAll A (L.take k)).dropAt L[k] from by rw [List.take_succ_eq_append_getElem hlt, dropAll_snoc])
      have c := HT.out.c
      have k0 : (0 : Int) ≤ (k : Int) := by omega
      have k1 : (k : Int) < (L.length : Int) := by omega
      clear hcs hs2 hgd hm hD hf
      generalize A.hd L[k] = z at *
      generalize (dropAll A (L.take k)).dropAt L[k] = A2 at *
      go_wp2_with fail
      refine HC.out.mono ?_
      rintro e w3 ⟨rfl, hp3, hk3⟩
      have HT3 := Lib.hid (HT.out.turn hp3 hk3)
      have HK3 := Lib.hid (HK.out.trans hk3)
      clear hp3 hk3 c
      go_wp2_with fail
      go_roundw
      case rel => exact ⟨k + 1, by omega, by go_num, by rw [HE.out]; exact HT3, HK3⟩
      case measure => simp [intOf]; omega
    · have HE := Lib.hid (show L.take k = L from List.take_of_length_le (by omega))
      go_wp2_with fail
      go_ret2
      exact ⟨_, rfl, HO.out wr HK.out, by have := HT.out; rw [HE.out] at this; exact this, (Keeps.of_below HB2.out).trans HK.out⟩

-- New
/-- What New answers. -/
def NewPost (w : World) (e : Ending) (w' : World) : Prop := ∃ T bt b, e = .returned (.pointer (some ⟨bt, 0, none⟩)) ∧ TR T w.heap.size w' ((Tab.new 1 64).addAt 0 0) bt b ∧ Below w.heap.size w w'
set_option maxHeartbeats 400000 in
theorem newT_any (w : World) : Calls Tryd.prog 4 #[] w (NewPost w) := by
  have HN := Lib.hid (show ∀ w, Calls Tryd.prog 17 #[.int .i64 1, .int .i64 64] w _ from fun w => pnew_ok 1 64 w (by omega) (by omega) (by omega) (by omega))
  have HA := Lib.hid (fun T B w v h => padd_some T B (Tab.new 1 64) (new_good (by omega) (by omega) (by omega) (by omega)) w v h 0 0 new_free)
  obtain ⟨A2, hA2⟩ : ∃ A2, A2 = (Tab.new 1 64).addAt 0 0 := ⟨_, rfl⟩
  rw [← hA2] at HA
  have HAE := Lib.hid hA2
  clear hA2
  generalize (Tab.new 1 64).hd 0 = z at *
  go_enter Tryd.func4, Tryd.ntmps4
  go_wp2_with fail
  refine (HN.out _).mono ?_
  rintro e w1 ⟨T, v, rfl, hp, hb⟩
  have HP := Lib.hid hp
  have HB := Lib.hid hb
  have HTL := Lib.hid hp.lt
  obtain ⟨b, _, _, _, _, _, _, rfl, h1, h2⟩ := hp
  clear h1 h2
  clear hb
  go_wp2_with fail
  refine (HA.out _ _ _ _ HP.out).mono ?_
  rintro e w2 ⟨rfl, hp2, hk2⟩
  have HP2 := Lib.hid hp2
  have HB2 := Lib.hid (HB.out.trans (hk2.below HB.out.size (fun x hx => (HTL.out x hx).1)))
  clear hp2 hk2
  go_wp2_with fail
  go_ret
  have hb := (Below.refl w2.heap.size w2).alloc (Nat.le_refl _) (.cells #[.pointer (some ⟨b, 0, none⟩)] 59)
  exact ⟨T, _, b, rfl, by rw [← HAE.out]; exact ⟨by simp, HP2.out.below hb, HB2.out.size, fun k => by have := (HP2.out.lt _ k).2; omega⟩, bnext HB2.out hb⟩
end
end Go.Proofs.YtlcdbblbepndoaaDoor
