/- The six questions, each one contract for the program's tree and one for the document's, whether the handles are found or not; num of what errors there are; no condition but those that each row names. -/
import Derived.Test.YtlcdbblbepndoaaDoorVRefM
import Derived.Test.YtlcdbblbepndoaaDoorVCommon
import Derived.Test.YtlcdbblbepndoaaDoorVNum
import Derived.Test.YtlcdbblbepndoaaDoorVLawA
namespace Go.Proofs.YtlcdbblbepndoaaDoor
open Go.RowKit Tr
/-- What the answers are. -/
def dOf (A : Tab) (X : Sh) (x : Int) : Int := match A.find x with | none => 0 | some i => (X.d i : Nat)
def kidO (A : Tab) (X : Sh) (x : Int) : List Int := match A.find x with | none => [] | some i => (X.kids i).map A.hd
def pOf (A : Tab) (X : Sh) (x : Int) : List Int := match A.find x with | none => [] | some i => (X.path i).map A.hd
def nOf2 (A : Tab) (x y : Int) : Int := match A.find x, A.find y with | some _, some _ => 0 | _, _ => 20
def wOf (A : Tab) (X : Sh) (x y : Int) : Bool := match A.find x, A.find y with | some i, some j => decide (i ∈ X.pt j) | _, _ => false
def Com (A : Tab) (X : Sh) (x y c : Int) : Prop := match A.find x, A.find y with | some i, some j => ∃ r, Low X i j r ∧ c = A.hd r | _, _ => c = 0
/-- One answer beside a number; a row beside a number. -/
def OnePost (w : World) (v n : Value) (e : Ending) (w' : World) : Prop := e = .returned (.tuple #[v, n]) ∧ Below w.heap.size w w'
def RowN (w : World) (l : List Int) (n : Value) (e : Ending) (w' : World) : Prop := ∃ v, e = .returned (.tuple #[v, n]) ∧ OwnH w.heap.size w' v l ∧ Below w.heap.size w w'
theorem num_any (n : Int) (w : World) (hg : LaidAt w) : Calls Tryd.prog 8 #[errV n] w fun e w' => e = .returned (.int .i64 n) ∧ Below w.heap.size w w' := by
  by_cases h : n = 0
  · subst h
    exact num_nil w
  · rw [errV_ne h]
    exact num_errno n w hg
section
variable {T S : Nat → Prop} {B : Nat} {A : Tab} {X : Sh} {bt b : Nat} {k0 : Int} {s : TS} {g cap : Nat}
theorem a_parent (hR : Rel A X) (w : World) (h : TR T B w A bt b) (x : Int) : Calls Tryd.prog 30 #[.pointer (some ⟨bt, 0, none⟩), .int .i64 x] w (OnePost w (.int .i64 (getV A x)) (errV (getN A x))) := by
  cases hf : A.find x with
  | none => have := parent_no hR.good w h x hf; unfold getV getN; rw [hf]; exact this
  | some i => have := parent_yes hR.good w h x i hf; unfold getN; rw [hf]; exact this
theorem b_parent (hR : Rel A X) (w : World) (h : RD S w g cap (nl A X)) (x : Int) : Calls Tryd.prog 31 #[rtv k0 s g cap (nl A X).length, .int .i64 x] w (OnePost w (.int .i64 (getV A x)) (.int .i64 (getN A x))) := by
  cases hf : A.find x with
  | none => have := rparent_no (k0 := k0) (s := s) hR w h x hf; unfold getV getN; rw [hf]; exact this
  | some i => obtain ⟨hi, rfl⟩ := hR.found hf; have := rparent_yes (k0 := k0) (s := s) hR w h i hi; unfold getN; rw [hf]; exact this
theorem a_depth (hR : Rel A X) (w : World) (h : TR T B w A bt b) (x : Int) : Calls Tryd.prog 21 #[.pointer (some ⟨bt, 0, none⟩), .int .i64 x] w (OnePost w (.int .i64 (dOf A X x)) (errV (getN A x))) := by
  cases hf : A.find x with
  | none => have := depth_no hR.good w h x hf; unfold dOf getN; rw [hf]; exact this
  | some i => obtain ⟨hi, rfl⟩ := hR.found hf; have := depth_yes hR w h i hi; unfold dOf getN; rw [hf]; exact this
theorem b_depth (hR : Rel A X) (w : World) (h : RD S w g cap (nl A X)) (x : Int) : Calls Tryd.prog 34 #[rtv k0 s g cap (nl A X).length, .int .i64 x] w (OnePost w (.int .i64 (dOf A X x)) (.int .i64 (getN A x))) := by
  cases hf : A.find x with
  | none => have := rdepth_no (k0 := k0) (s := s) hR w h x hf; unfold dOf getN; rw [hf]; exact this
  | some i => obtain ⟨hi, rfl⟩ := hR.found hf; have := rdepth_yes (k0 := k0) (s := s) hR w h i hi; unfold dOf getN; rw [hf]; exact this
theorem a_kids (hR : Rel A X) (w : World) (h : TR T B w A bt b) (x : Int) : Calls Tryd.prog 32 #[.pointer (some ⟨bt, 0, none⟩), .int .i64 x] w (RowN w (kidO A X x) (errV (getN A x))) := by
  cases hf : A.find x with
  | none => 
    refine (kids_no hR.good w h x hf).mono ?_
    rintro e w' ⟨rfl, hb⟩
    unfold kidO getN; rw [hf]
    exact ⟨_, rfl, World.ownsRow_nil _ _ _ _, hb⟩
  | some i => obtain ⟨hi, rfl⟩ := hR.found hf; have := kids_yes hR w h i hi; unfold kidO getN; rw [hf]; exact this
theorem b_kids (hR : Rel A X) (w : World) (h : RD S w g cap (nl A X)) (x : Int) : Calls Tryd.prog 33 #[rtv k0 s g cap (nl A X).length, .int .i64 x] w (RowN w (kidO A X x) (.int .i64 (getN A x))) := by
  cases hf : A.find x with
  | none => 
    refine (rkids_no (k0 := k0) (s := s) hR w h x hf).mono ?_
    rintro e w' ⟨rfl, hb⟩
    unfold kidO getN; rw [hf]
    exact ⟨_, rfl, World.ownsRow_nil _ _ _ _, hb⟩
  | some i => obtain ⟨hi, rfl⟩ := hR.found hf; have := rkids_yes (k0 := k0) (s := s) hR w h i hi; unfold kidO getN; rw [hf]; exact this
theorem a_path (hR : Rel A X) (w : World) (h : TR T B w A bt b) (x : Int) : Calls Tryd.prog 35 #[.pointer (some ⟨bt, 0, none⟩), .int .i64 x] w (RowN w (pOf A X x) (errV (getN A x))) := by
  cases hf : A.find x with
  | none => 
    refine (path_no hR.good w h x hf).mono ?_
    rintro e w' ⟨rfl, hb⟩
    unfold pOf getN; rw [hf]
    exact ⟨_, rfl, World.ownsRow_nil _ _ _ _, hb⟩
  | some i => obtain ⟨hi, rfl⟩ := hR.found hf; have := path_yes hR w h i hi; unfold pOf getN; rw [hf]; exact this
theorem b_path (hR : Rel A X) (w : World) (h : RD S w g cap (nl A X)) (x : Int) : Calls Tryd.prog 36 #[rtv k0 s g cap (nl A X).length, .int .i64 x] w (RowN w (pOf A X x) (.int .i64 (getN A x))) := by
  cases hf : A.find x with
  | none => 
    refine (rpath_no (k0 := k0) (s := s) hR w h x hf).mono ?_
    rintro e w' ⟨rfl, hb⟩
    unfold pOf getN; rw [hf]
    exact ⟨_, rfl, World.ownsRow_nil _ _ _ _, hb⟩
  | some i => obtain ⟨hi, rfl⟩ := hR.found hf; have := rpath_yes (k0 := k0) (s := s) hR w h i hi; unfold pOf getN; rw [hf]; exact this
theorem a_within (hR : Rel A X) (w : World) (h : TR T B w A bt b) (x y : Int) : Calls Tryd.prog 37 #[.pointer (some ⟨bt, 0, none⟩), .int .i64 x, .int .i64 y] w (OnePost w (.bool (wOf A X x y)) (errV (nOf2 A x y))) := by
  cases hf : A.find x with
  | none => have := within_no hR.good w h x y (.inl hf); unfold wOf nOf2; rw [hf]; exact this
  | some i =>
    cases hg : A.find y with
    | none => have := within_no hR.good w h x y (.inr hg); unfold wOf nOf2; rw [hf, hg]; exact this
    | some j =>
      obtain ⟨hi, rfl⟩ := hR.found hf
      obtain ⟨hj, rfl⟩ := hR.found hg
      have := within_yes hR w h i j hi hj
      unfold wOf nOf2; rw [hf, hg]; exact this
theorem b_within (hR : Rel A X) (w : World) (h : RD S w g cap (nl A X)) (x y : Int) : Calls Tryd.prog 38 #[rtv k0 s g cap (nl A X).length, .int .i64 x, .int .i64 y] w (OnePost w (.bool (wOf A X x y)) (.int .i64 (nOf2 A x y))) := by
  cases hf : A.find x with
  | none => have := rwithin_no (k0 := k0) (s := s) hR w h x y (.inl hf); unfold wOf nOf2; rw [hf]; exact this
  | some i =>
    cases hg : A.find y with
    | none => have := rwithin_no (k0 := k0) (s := s) hR w h x y (.inr hg); unfold wOf nOf2; rw [hf, hg]; exact this
    | some j =>
      obtain ⟨hi, rfl⟩ := hR.found hf
      obtain ⟨hj, rfl⟩ := hR.found hg
      have := rwithin_yes (k0 := k0) (s := s) hR w h i j hi hj
      unfold wOf nOf2; rw [hf, hg]; exact this
theorem a_common (hR : Rel A X) (w : World) (h : TR T B w A bt b) (x y : Int) : Calls Tryd.prog 39 #[.pointer (some ⟨bt, 0, none⟩), .int .i64 x, .int .i64 y] w fun e w' => ∃ c, Com A X x y c ∧ OnePost w (.int .i64 c) (errV (nOf2 A x y)) e w' := by
  cases hf : A.find x with
  | none =>
    refine (common_no hR.good w h x y (.inl hf)).mono ?_
    rintro e w' h
    unfold Com nOf2; rw [hf]
    exact ⟨0, rfl, h⟩
  | some i =>
    cases hg : A.find y with
    | none =>
      refine (common_no hR.good w h x y (.inr hg)).mono ?_
      rintro e w' h
      unfold Com nOf2; rw [hf, hg]
      exact ⟨0, rfl, h⟩
    | some j =>
      obtain ⟨hi, rfl⟩ := hR.found hf
      obtain ⟨hj, rfl⟩ := hR.found hg
      refine (common_yes hR w h i j hi hj).mono ?_
      rintro e w' ⟨r, hr, h⟩
      unfold Com nOf2; rw [hf, hg]
      exact ⟨_, ⟨r, hr, rfl⟩, h⟩
theorem b_common (hR : Rel A X) (w : World) (h : RD S w g cap (nl A X)) (x y c : Int) (hc : Com A X x y c) : Calls Tryd.prog 40 #[rtv k0 s g cap (nl A X).length, .int .i64 x, .int .i64 y] w (OnePost w (.int .i64 c) (.int .i64 (nOf2 A x y))) := by
  cases hf : A.find x with
  | none =>
    have := rcommon_no (k0 := k0) (s := s) hR w h x y (.inl hf)
    unfold Com at hc; unfold nOf2; rw [hf] at hc ⊢
    rw [show c = 0 from hc]
    exact this
  | some i =>
    cases hg : A.find y with
    | none =>
      have := rcommon_no (k0 := k0) (s := s) hR w h x y (.inr hg)
      unfold Com at hc; unfold nOf2; rw [hf, hg] at hc ⊢
      rw [show c = 0 from hc]
      exact this
    | some j =>
      obtain ⟨hi, rfl⟩ := hR.found hf
      obtain ⟨hj, rfl⟩ := hR.found hg
      unfold Com at hc; unfold nOf2; rw [hf, hg] at hc ⊢
      obtain ⟨r, hr, rfl⟩ := hc
      exact rcommon_yes (k0 := k0) (s := s) hR w h i j r hi hj hr
end
end Go.Proofs.YtlcdbblbepndoaaDoor
namespace Go.Proofs.YtlcdbblbepndoaaDoor
open Go.RowKit Tr
section
variable {T S : Nat → Prop} {B : Nat} {A : Tab} {X : Sh} {bt b : Nat} {k0 : Int} {s : TS} {g cap : Nat}
theorem lst_same {w : World} {u v : Value} {l : List Int} (hu : OwnH 0 w u l) (hv : OwnH 0 w v l) (h4 : l.length ≤ 4096) : Calls Tryd.prog 11 #[u, v] w fun e w' => e = .returned (.bool true) ∧ Below w.heap.size w w' :=
  same_yes w u v l (hu.lst h4) (hv.lst h4) h4
theorem kidO_len (A : Tab) (X : Sh) (x : Int) : (kidO A X x).length ≤ 4096 := by
  unfold kidO
  split
  · simp
  · rw [List.length_map]
    unfold Sh.kids
    exact Nat.le_trans (List.length_filter_le _ _) (by simp)
theorem pOf_len {A : Tab} {X : Sh} (hR : Rel A X) (x : Int) : (pOf A X x).length ≤ 4096 := by
  unfold pOf
  cases hf : A.find x with
  | none => simp
  | some i =>
    obtain ⟨hi, rfl⟩ := hR.found hf
    have := hR.tree.d8 i hi
    simp only [List.length_map, path_len]
    omega
set_option maxHeartbeats 2000000 in
set_option maxRecDepth 100000 in
theorem asks_any (hR : Rel A X) (w : World) (h : TR T B w A bt b) (hd : RD S w g cap (nl A X)) (hl : LaidAt w) (x y : Int) :
    Calls Tryd.prog 12 #[.pointer (some ⟨bt, 0, none⟩), rtv k0 s g cap (nl A X).length, .int .i64 x, .int .i64 y] w fun e w' => e = .returned (.bool true) ∧ Below w.heap.size w w' := by
  have A1 := Lib.hid (fun W (hb : Below w.heap.size w W) => a_parent hR W (h.below hb) x)
  have B1 := Lib.hid (fun W (hb : Below w.heap.size w W) => b_parent (k0 := k0) (s := s) hR W (hd.below hb) x)
  have A2 := Lib.hid (fun W (hb : Below w.heap.size w W) => a_kids hR W (h.below hb) x)
  have B2 := Lib.hid (fun W (hb : Below w.heap.size w W) => b_kids (k0 := k0) (s := s) hR W (hd.below hb) x)
  have A3 := Lib.hid (fun W (hb : Below w.heap.size w W) => a_depth hR W (h.below hb) x)
  have B3 := Lib.hid (fun W (hb : Below w.heap.size w W) => b_depth (k0 := k0) (s := s) hR W (hd.below hb) x)
  have A4 := Lib.hid (fun W (hb : Below w.heap.size w W) => a_path hR W (h.below hb) x)
  have B4 := Lib.hid (fun W (hb : Below w.heap.size w W) => b_path (k0 := k0) (s := s) hR W (hd.below hb) x)
  have A5 := Lib.hid (fun W (hb : Below w.heap.size w W) => a_within hR W (h.below hb) x y)
  have B5 := Lib.hid (fun W (hb : Below w.heap.size w W) => b_within (k0 := k0) (s := s) hR W (hd.below hb) x y)
  have A6 := Lib.hid (fun W (hb : Below w.heap.size w W) => a_common hR W (h.below hb) x y)
  have B6 := Lib.hid (fun c hc W (hb : Below w.heap.size w W) => b_common (k0 := k0) (s := s) hR W (hd.below hb) x y c hc)
  have NU := Lib.hid (fun n W (hb : Below w.heap.size w W) => num_any n W (hl.below hb))
  have HK4 := kidO_len A X x
  have HP4 := pOf_len hR x
  have hb0 : ∀ o, Below w.heap.size w (w.alloc o) := fun o => (Below.refl _ _).alloc (Nat.le_refl _) o
  generalize nl A X = L at *
  generalize getV A x = v1 at *
  generalize getN A x = n1 at *
  generalize nOf2 A x y = n2 at *
  generalize dOf A X x = v3 at *
  generalize wOf A X x y = v5 at *
  generalize Com A X x y = C at *
  generalize kidO A X x = KL at *
  generalize pOf A X x = PL at *
  clear hR h hd hl
  go_enter Tryd.func12, Tryd.ntmps12
  go_wp2_with fail
  have HK5 := Lib.hid (five_keep (w := w) (k0 := k0) (s := s) (g := g) (cap := cap) (n := L.length) (t := 31) (Below.refl _ _))
  have HB0 := Lib.hid (hb0 (.cells #[.int .i64 k0, .slice s.p s.n s.c, .slice s.q s.m s.d, .slice s.r s.l s.e, .slice (some ⟨g, 0, none⟩) L.length cap] 31))
  generalize w.alloc (.cells #[.int .i64 k0, .slice s.p s.n s.c, .slice s.q s.m s.d, .slice s.r s.l s.e, .slice (some ⟨g, 0, none⟩) L.length cap] 31) = W0 at *
  have HKEEP := Lib.hid (show ∀ W, Below W0.heap.size W0 W → (W.cell? ⟨w.heap.size, 0, none⟩ = some (.int .i64 k0) ∧ W.cell? ⟨w.heap.size, 1, none⟩ = some (.slice s.p s.n s.c) ∧ W.cell? ⟨w.heap.size, 2, none⟩ = some (.slice s.q s.m s.d) ∧ W.cell? ⟨w.heap.size, 3, none⟩ = some (.slice s.r s.l s.e) ∧ W.cell? ⟨w.heap.size, 4, none⟩ = some (.slice (some ⟨g, 0, none⟩) L.length cap) ∧ Below W0.heap.size W0 W) from fun W h =>
    ⟨(HK5.out W h).1, (HK5.out W h).2.1, (HK5.out W h).2.2.1, (HK5.out W h).2.2.2.1, (HK5.out W h).2.2.2.2, h⟩)
  obtain ⟨d0, d1, d2, d3, d4⟩ := HK5.out W0 (Below.refl _ _)
  clear hb0
  refine (A1.out _ HB0.out).mono ?_
  rintro e w1 ⟨rfl, hb⟩
  have HW1 := Lib.hid (bnext (Below.refl W0.heap.size W0) hb)
  have HV1 := Lib.hid (bnext HB0.out HW1.out)
  clear hb d0 d1 d2 d3 d4
  obtain ⟨d0, d1, d2, d3, d4⟩ := HK5.out w1 HW1.out
  go_wp2_with fail
  refine (B1.out _ HV1.out).mono ?_
  rintro e w2 ⟨rfl, hb⟩
  have HW2 := Lib.hid (bnext HW1.out hb)
  have HV2 := Lib.hid (bnext HB0.out HW2.out)
  clear hb d0 d1 d2 d3 d4
  obtain ⟨d0, d1, d2, d3, d4⟩ := HK5.out w2 HW2.out
  go_wp2_with fail
  refine (A2.out _ HV2.out).mono ?_
  rintro e w3 ⟨ra, rfl, ho, hb⟩
  have HW3 := Lib.hid (bnext HW2.out hb)
  have HV3 := Lib.hid (bnext HB0.out HW3.out)
  have Rra := Lib.hid (ho.base (Nat.zero_le _))
  clear hb ho d0 d1 d2 d3 d4
  obtain ⟨d0, d1, d2, d3, d4⟩ := HK5.out w3 HW3.out
  go_wp2_with fail
  refine (B2.out _ HV3.out).mono ?_
  rintro e w4 ⟨rb, rfl, ho, hb⟩
  have HW4 := Lib.hid (bnext HW3.out hb)
  have HV4 := Lib.hid (bnext HB0.out HW4.out)
  have Rra := Lib.hid (Rra.out.below hb)
  have Rrb := Lib.hid (ho.base (Nat.zero_le _))
  clear hb ho d0 d1 d2 d3 d4
  obtain ⟨d0, d1, d2, d3, d4⟩ := HK5.out w4 HW4.out
  go_wp2_with fail
  refine (A3.out _ HV4.out).mono ?_
  rintro e w5 ⟨rfl, hb⟩
  have HW5 := Lib.hid (bnext HW4.out hb)
  have HV5 := Lib.hid (bnext HB0.out HW5.out)
  have Rra := Lib.hid (Rra.out.below hb)
  have Rrb := Lib.hid (Rrb.out.below hb)
  clear hb d0 d1 d2 d3 d4
  obtain ⟨d0, d1, d2, d3, d4⟩ := HK5.out w5 HW5.out
  go_wp2_with fail
  refine (B3.out _ HV5.out).mono ?_
  rintro e w6 ⟨rfl, hb⟩
  have HW6 := Lib.hid (bnext HW5.out hb)
  have HV6 := Lib.hid (bnext HB0.out HW6.out)
  have Rra := Lib.hid (Rra.out.below hb)
  have Rrb := Lib.hid (Rrb.out.below hb)
  clear hb d0 d1 d2 d3 d4
  obtain ⟨d0, d1, d2, d3, d4⟩ := HK5.out w6 HW6.out
  go_wp2_with fail
  refine (A4.out _ HV6.out).mono ?_
  rintro e w7 ⟨rc, rfl, ho, hb⟩
  have HW7 := Lib.hid (bnext HW6.out hb)
  have HV7 := Lib.hid (bnext HB0.out HW7.out)
  have Rra := Lib.hid (Rra.out.below hb)
  have Rrb := Lib.hid (Rrb.out.below hb)
  have Rrc := Lib.hid (ho.base (Nat.zero_le _))
  clear hb ho d0 d1 d2 d3 d4
  obtain ⟨d0, d1, d2, d3, d4⟩ := HK5.out w7 HW7.out
  go_wp2_with fail
  refine (B4.out _ HV7.out).mono ?_
  rintro e w8 ⟨rd, rfl, ho, hb⟩
  have HW8 := Lib.hid (bnext HW7.out hb)
  have HV8 := Lib.hid (bnext HB0.out HW8.out)
  have Rra := Lib.hid (Rra.out.below hb)
  have Rrb := Lib.hid (Rrb.out.below hb)
  have Rrc := Lib.hid (Rrc.out.below hb)
  have Rrd := Lib.hid (ho.base (Nat.zero_le _))
  clear hb ho d0 d1 d2 d3 d4
  obtain ⟨d0, d1, d2, d3, d4⟩ := HK5.out w8 HW8.out
  go_wp2_with fail
  refine (A5.out _ HV8.out).mono ?_
  rintro e w9 ⟨rfl, hb⟩
  have HW9 := Lib.hid (bnext HW8.out hb)
  have HV9 := Lib.hid (bnext HB0.out HW9.out)
  have Rra := Lib.hid (Rra.out.below hb)
  have Rrb := Lib.hid (Rrb.out.below hb)
  have Rrc := Lib.hid (Rrc.out.below hb)
  have Rrd := Lib.hid (Rrd.out.below hb)
  clear hb d0 d1 d2 d3 d4
  obtain ⟨d0, d1, d2, d3, d4⟩ := HK5.out w9 HW9.out
  go_wp2_with fail
  refine (B5.out _ HV9.out).mono ?_
  rintro e w10 ⟨rfl, hb⟩
  have HW10 := Lib.hid (bnext HW9.out hb)
  have HV10 := Lib.hid (bnext HB0.out HW10.out)
  have Rra := Lib.hid (Rra.out.below hb)
  have Rrb := Lib.hid (Rrb.out.below hb)
  have Rrc := Lib.hid (Rrc.out.below hb)
  have Rrd := Lib.hid (Rrd.out.below hb)
  clear hb d0 d1 d2 d3 d4
  obtain ⟨d0, d1, d2, d3, d4⟩ := HK5.out w10 HW10.out
  go_wp2_with fail
  refine (A6.out _ HV10.out).mono ?_
  rintro e w11 ⟨c, hc, rfl, hb⟩
  have HW11 := Lib.hid (bnext HW10.out hb)
  have HV11 := Lib.hid (bnext HB0.out HW11.out)
  have Rra := Lib.hid (Rra.out.below hb)
  have Rrb := Lib.hid (Rrb.out.below hb)
  have Rrc := Lib.hid (Rrc.out.below hb)
  have Rrd := Lib.hid (Rrd.out.below hb)
  clear hb d0 d1 d2 d3 d4
  obtain ⟨d0, d1, d2, d3, d4⟩ := HK5.out w11 HW11.out
  go_wp2_with fail
  refine (B6.out c hc _ HV11.out).mono ?_
  rintro e w12 ⟨rfl, hb⟩
  have HW12 := Lib.hid (bnext HW11.out hb)
  have HV12 := Lib.hid (bnext HB0.out HW12.out)
  have Rra := Lib.hid (Rra.out.below hb)
  have Rrb := Lib.hid (Rrb.out.below hb)
  have Rrc := Lib.hid (Rrc.out.below hb)
  have Rrd := Lib.hid (Rrd.out.below hb)
  clear hb d0 d1 d2 d3 d4
  obtain ⟨d0, d1, d2, d3, d4⟩ := HK5.out w12 HW12.out
  go_wp2_with fail
  refine (NU.out _ _ HV12.out).mono ?_
  rintro e w13 ⟨rfl, hb⟩
  have HW13 := Lib.hid (bnext HW12.out hb)
  have HV13 := Lib.hid (bnext HB0.out HW13.out)
  have Rra := Lib.hid (Rra.out.below hb)
  have Rrb := Lib.hid (Rrb.out.below hb)
  have Rrc := Lib.hid (Rrc.out.below hb)
  have Rrd := Lib.hid (Rrd.out.below hb)
  clear hb
  go_wp2_with fail
  refine (lst_same Rra.out Rrb.out HK4).mono ?_
  rintro e w14 ⟨rfl, hb⟩
  have HW14 := Lib.hid (bnext HW13.out hb)
  have HV14 := Lib.hid (bnext HB0.out HW14.out)
  have Rra := Lib.hid (Rra.out.below hb)
  have Rrb := Lib.hid (Rrb.out.below hb)
  have Rrc := Lib.hid (Rrc.out.below hb)
  have Rrd := Lib.hid (Rrd.out.below hb)
  clear hb
  go_wp2_with fail
  refine (NU.out _ _ HV14.out).mono ?_
  rintro e w15 ⟨rfl, hb⟩
  have HW15 := Lib.hid (bnext HW14.out hb)
  have HV15 := Lib.hid (bnext HB0.out HW15.out)
  have Rra := Lib.hid (Rra.out.below hb)
  have Rrb := Lib.hid (Rrb.out.below hb)
  have Rrc := Lib.hid (Rrc.out.below hb)
  have Rrd := Lib.hid (Rrd.out.below hb)
  clear hb
  go_wp2_with fail
  refine (NU.out _ _ HV15.out).mono ?_
  rintro e w16 ⟨rfl, hb⟩
  have HW16 := Lib.hid (bnext HW15.out hb)
  have HV16 := Lib.hid (bnext HB0.out HW16.out)
  have Rra := Lib.hid (Rra.out.below hb)
  have Rrb := Lib.hid (Rrb.out.below hb)
  have Rrc := Lib.hid (Rrc.out.below hb)
  have Rrd := Lib.hid (Rrd.out.below hb)
  clear hb
  go_wp2_with fail
  refine (lst_same Rrc.out Rrd.out HP4).mono ?_
  rintro e w17 ⟨rfl, hb⟩
  have HW17 := Lib.hid (bnext HW16.out hb)
  have HV17 := Lib.hid (bnext HB0.out HW17.out)
  have Rra := Lib.hid (Rra.out.below hb)
  have Rrb := Lib.hid (Rrb.out.below hb)
  have Rrc := Lib.hid (Rrc.out.below hb)
  have Rrd := Lib.hid (Rrd.out.below hb)
  clear hb
  go_wp2_with fail
  refine (NU.out _ _ HV17.out).mono ?_
  rintro e w18 ⟨rfl, hb⟩
  have HW18 := Lib.hid (bnext HW17.out hb)
  have HV18 := Lib.hid (bnext HB0.out HW18.out)
  have Rra := Lib.hid (Rra.out.below hb)
  have Rrb := Lib.hid (Rrb.out.below hb)
  have Rrc := Lib.hid (Rrc.out.below hb)
  have Rrd := Lib.hid (Rrd.out.below hb)
  clear hb
  go_wp2_with fail
  refine (NU.out _ _ HV18.out).mono ?_
  rintro e w19 ⟨rfl, hb⟩
  have HW19 := Lib.hid (bnext HW18.out hb)
  have HV19 := Lib.hid (bnext HB0.out HW19.out)
  have Rra := Lib.hid (Rra.out.below hb)
  have Rrb := Lib.hid (Rrb.out.below hb)
  have Rrc := Lib.hid (Rrc.out.below hb)
  have Rrd := Lib.hid (Rrd.out.below hb)
  clear hb
  go_wp2_with fail
  refine (NU.out _ _ HV19.out).mono ?_
  rintro e w20 ⟨rfl, hb⟩
  have HW20 := Lib.hid (bnext HW19.out hb)
  have HV20 := Lib.hid (bnext HB0.out HW20.out)
  have Rra := Lib.hid (Rra.out.below hb)
  have Rrb := Lib.hid (Rrb.out.below hb)
  have Rrc := Lib.hid (Rrc.out.below hb)
  have Rrd := Lib.hid (Rrd.out.below hb)
  clear hb
  go_wp2_with fail
  go_ret
  exact ⟨rfl, HV20.out⟩
end
end Go.Proofs.YtlcdbblbepndoaaDoor
