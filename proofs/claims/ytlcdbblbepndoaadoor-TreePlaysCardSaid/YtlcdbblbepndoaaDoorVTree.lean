/- The program's tree in memory, and its look, parent, kids; no condition but those that each row names. -/
import Derived.Test.YtlcdbblbepndoaaDoorVAllP
import Derived.Test.YtlcdbblbepndoaaDoorVRel
import Derived.Test.YtlcdbblbepndoaaDoorVSl
namespace Go.Proofs.YtlcdbblbepndoaaDoor
open Go.RowKit Tr

/-- A row of handles of the call's own. -/
def OwnH (B : Nat) (w : World) (v : Value) (l : List Int) : Prop := w.ownsRow B 33 1 v l.length (ints l)
theorem OwnH.below {B : Nat} {w w' : World} {v : Value} {l : List Int} (h : OwnH B w v l) (hb : Below w.heap.size w w') : OwnH B w' v l := own_below h hb
theorem OwnH.base {B B' : Nat} {w : World} {v : Value} {l : List Int} (h : OwnH B w v l) (hb : B' ≤ B) : OwnH B' w v l := own_base h hb
theorem OwnH.lst {B : Nat} {w : World} {v : Value} {l : List Int} (h : OwnH B w v l) (h4 : l.length ≤ 4096) : Lst (fun _ => False) w v (ints l) := Lst.of_own h (ints_len l) (by omega) (fun _ _ _ k => k)
theorem OwnH.shape {B : Nat} {w : World} {v : Value} {l : List Int} (h : OwnH B w v l) : ∃ p cap, v = .slice p l.length cap := own_shape h (ints_len l)
theorem OwnH.keeps {S : Nat → Prop} {B : Nat} {w w' : World} {v : Value} {l : List Int} (h : OwnH B w v l) (hk : Keeps S w w') (hS : ∀ x, S x → x < B) : OwnH B w' v l :=
  own_keeps h hk fun g hg k => by have := (World.ownsRow.lt h g hg).1; have := hS g k; omega
theorem OwnH.cell {B g n cap : Nat} {w : World} {f : Nat → Int} {L : List Nat} (h : OwnH B w (.slice (some ⟨g, 0, none⟩) n cap) (L.map f)) (m : Nat) (hm : m < L.length) : w.cell? ⟨g, m, none⟩ = some (.int .i64 (f L[m])) := by
  have := World.ownsRow.cells (g := g) h rfl m (.int .i64 (f L[m])) (by simp [ints, hm])
  rw [addr_add, Nat.zero_add] at this
  exact this
theorem OwnH.cellq {B g n cap : Nat} {w : World} {f : Nat → Int} {L : List Nat} (h : OwnH B w (.slice (some ⟨g, 0, none⟩) n cap) (L.map f)) {m z : Nat} (hm : L[m]? = some z) : w.cell? ⟨g, m, none⟩ = some (.int .i64 (f z)) := by
  obtain ⟨h1, h2⟩ := List.getElem?_eq_some_iff.1 hm
  rw [h.cell m h1, h2]
/-- A row of handles whose block lies between two numbers. -/
def RowIn (lo hi : Nat) (w : World) (v : Value) (l : List Int) : Prop := OwnH lo w v l ∧ ∀ g, v.ownBlock = some g → g < hi
theorem OwnH.rowIn {B : Nat} {w : World} {v : Value} {l : List Int} (h : OwnH B w v l) : RowIn B w.heap.size w v l := ⟨h, fun g e => (World.ownsRow.lt h g e).2⟩
theorem RowIn.keeps {S : Nat → Prop} {lo hi : Nat} {w w' : World} {v : Value} {l : List Int} (h : RowIn lo hi w v l) (hk : Keeps S w w') (hS : ∀ x, S x → x < lo ∨ hi ≤ x) : RowIn lo hi w' v l :=
  ⟨own_keeps h.1 hk fun g hg k => by have := (World.ownsRow.lt h.1 g hg).1; have := h.2 g hg; have := hS g k; omega, h.2⟩
theorem RowIn.below {lo hi : Nat} {w w' : World} {v : Value} {l : List Int} (h : RowIn lo hi w v l) (hb : Below w.heap.size w w') : RowIn lo hi w' v l := ⟨h.1.below hb, h.2⟩
/-- A row of so many, whatever they are. -/
def AnyRow (lo hi : Nat) (w : World) (v : Value) (n : Nat) : Prop := ∃ l, l.length = n ∧ RowIn lo hi w v l
theorem AnyRow.set {lo hi g n cap : Nat} {w : World} (h : AnyRow lo hi w (.slice (some ⟨g, 0, none⟩) n cap) n) (k : Nat) (z : Int) : AnyRow lo hi (w.setCell ⟨g, k, none⟩ (.int .i64 z)) (.slice (some ⟨g, 0, none⟩) n cap) n := by
  obtain ⟨l, hl, h1, h2⟩ := h
  subst hl
  have hst := (World.ownsRow.stored h1 k (.int .i64 z)).1
  rw [ints_set] at hst
  refine ⟨l.set k z, by simp, ?_, h2⟩
  unfold OwnH
  rw [List.length_set]
  exact hst
theorem AnyRow.at {lo hi n cap : Nat} {p : Option Addr} {w : World} (h : AnyRow lo hi w (.slice p n cap) n) (k : Nat) (hk : k < n) : ∃ g z, p = some ⟨g, 0, none⟩ ∧ w.cell? ⟨g, k, none⟩ = some (.int .i64 z) ∧ w.frozen? ⟨g, k, none⟩ = false ∧ (lo ≤ g ∧ g < hi) ∧
    ∀ u, AnyRow lo hi (w.setCell ⟨g, k, none⟩ (.int .i64 u)) (.slice p n cap) n := by
  obtain ⟨l, hl, h1, h2⟩ := id h
  subst hl
  obtain ⟨g, cap2, cur, hv, _, _⟩ := own_block h1 (by omega)
  injection hv with e1 _ _
  subst e1
  have := World.ownsRow.cells (g := g) h1 rfl k (.int .i64 l[k]) (by simp [ints, hk])
  rw [addr_add, Nat.zero_add] at this
  exact ⟨g, _, rfl, this, World.ownsRow.frozenAt h1 k, ⟨(World.ownsRow.lt h1 g rfl).1, h2 g rfl⟩, fun u => h.set k u⟩
/-- What is answered of a row. -/
def RowPost (w : World) (l : List Int) (e : Ending) (w' : World) : Prop := ∃ v, e = .returned v ∧ OwnH w.heap.size w' v l ∧ Below w.heap.size w w'

/-- The program's tree in a world. -/
structure TR (T : Nat → Prop) (B : Nat) (w : World) (A : Tab) (bt b : Nat) : Prop where
  c : w.cell? ⟨bt, 0, none⟩ = some (.pointer (some ⟨b, 0, none⟩))
  p : PTab T B w A (.pointer (some ⟨b, 0, none⟩))
  hb : B ≤ bt
  nt : ¬ T bt
theorem TR.lt {T : Nat → Prop} {B : Nat} {w : World} {A : Tab} {bt b : Nat} (h : TR T B w A bt b) : bt < w.heap.size := cell_lt h.c
theorem TR.keeps {S T : Nat → Prop} {B : Nat} {w w' : World} {A : Tab} {bt b : Nat} (h : TR T B w A bt b) (hk : Keeps S w w') (h1 : ∀ x, T x → ¬ S x) (h2 : ¬ S bt) : TR T B w' A bt b :=
  ⟨(hk.cell (p := ⟨bt, 0, none⟩) h.lt h2).trans h.c, h.p.keeps hk h1, h.hb, h.nt⟩
theorem TR.below {T : Nat → Prop} {B : Nat} {w w' : World} {A : Tab} {bt b : Nat} (h : TR T B w A bt b) (hb : Below w.heap.size w w') : TR T B w' A bt b :=
  h.keeps (S := fun _ => False) (Keeps.of_below hb) (fun _ _ k => k) (fun k => k)

theorem tget_none (T : Nat → Prop) (B : Nat) (A : Tab) (hA : A.Good) (w : World) (v : Value) (h : PTab T B w A v) (x : Int) (hf : A.find x = none) :
    Calls Tryd.prog 52 #[v, .int .i64 x] w fun e w' => e = .returned (.tuple #[.int .i64 0, .iface 68 (.int .i64 20)]) ∧ Below w.heap.size w w' := by
  have := pget T B A hA w v h x
  have e1 : getV A x = 0 := by unfold getV; rw [hf]
  have e2 : getN A x = 20 := by unfold getN; rw [hf]
  rw [e1, e2] at this
  exact this
theorem tget_some (T : Nat → Prop) (B : Nat) (A : Tab) (hA : A.Good) (w : World) (v : Value) (h : PTab T B w A v) (x : Int) (i : Nat) (hf : A.find x = some i) :
    Calls Tryd.prog 52 #[v, .int .i64 x] w fun e w' => e = .returned (.tuple #[.int .i64 (getV A x), .nilIface]) ∧ Below w.heap.size w w' := by
  have := pget T B A hA w v h x
  have e2 : getN A x = 0 := by unfold getN; rw [hf]
  rw [e2] at this
  exact this

set_option maxHeartbeats 400000 in
theorem tparent (T : Nat → Prop) (B : Nat) (A : Tab) (hA : A.Good) (w : World) (bt b : Nat) (h : TR T B w A bt b) (x : Int) :
    Calls Tryd.prog 56 #[.pointer (some ⟨bt, 0, none⟩), .int .i64 x] w fun e w' => e = .returned (.int .i64 (getV A x)) ∧ Below w.heap.size w w' := by
  have HG := Lib.hid (pget T B A hA w _ h.p x)
  have c := h.c
  generalize getV A x = y at *
  generalize errV (getN A x) = n at *
  clear h
  go_enter Tryd.func56, Tryd.ntmps56
  go_wp2_with fail
  refine HG.out.mono ?_
  rintro e w1 ⟨rfl, hb⟩
  go_wp2_with fail
  go_ret
  exact ⟨rfl, hb⟩

/-- Is each of some handles there? -/
def lookN (A : Tab) (l : List Int) : Int := if l.all (fun x => (A.find x).isSome) = true then 0 else 20
set_option maxHeartbeats 1000000 in
set_option maxRecDepth 100000 in
theorem tlook (T : Nat → Prop) (B : Nat) (A : Tab) (hA : A.Good) (w : World) (bt b : Nat) (h : TR T B w A bt b) (v : Value) (l : List Int) (hl : Lst (fun _ => False) w v (ints l)) :
    Calls Tryd.prog 26 #[.pointer (some ⟨bt, 0, none⟩), v] w fun e w' => e = .returned (errV (lookN A l)) ∧ Below w.heap.size w w' := by
  have HT := Lib.hid (fun w1 (hb : Below w.heap.size w w1) => h.below hb)
  have HL := Lib.hid (fun w1 (hb : Below w.heap.size w w1) => hl.below hb)
  have HN := Lib.hid (fun w v h x hf => tget_none T B A hA w v h x hf)
  have HS := Lib.hid (fun w v h x i hf => tget_some T B A hA w v h x i hf)
  obtain ⟨p, cp, rfl, hm, hg⟩ := hl
  rw [ints_len] at *
  have HE := Lib.hid (show ∀ k, k < l.length → A.find (l.getD k 0) = none → errV (lookN A l) = .iface 68 (.int .i64 20) from fun k hk hf => by
    have : lookN A l = 20 := by
      unfold lookN
      rw [if_neg]
      intro hall
      rw [List.all_eq_true] at hall
      have := hall (l.getD k 0) (by rw [List.getD_eq_getElem?_getD, List.getElem?_eq_getElem hk]; exact List.getElem_mem hk)
      rw [hf] at this
      cases this
    rw [this]; rfl)
  have HZ := Lib.hid (show (∀ k, k < l.length → A.find (l.getD k 0) ≠ none) → errV (lookN A l) = .nilIface from fun hk => by
    have : lookN A l = 0 := by
      unfold lookN
      rw [if_pos]
      rw [List.all_eq_true]
      intro x hx
      obtain ⟨j, hj, e⟩ := List.getElem_of_mem hx
      have := hk j hj
      rw [List.getD_eq_getElem?_getD, List.getElem?_eq_getElem hj] at this
      simp [e] at this
      exact Option.isSome_iff_ne_none.2 this
    rw [this]; rfl)
  clear hg h hA
  go_enter Tryd.func26, Tryd.ntmps26
  go_wp2_with fail
  go_loopw [11] (fun i wr => ∃ k : Nat, k ≤ l.length ∧ i = .int .i64 k ∧ Hid (∀ j, j < k → A.find (l.getD j 0) ≠ none) ∧ Hid (Below w.heap.size w wr)) (fun i _ => l.length - (intOf i).toNat)
  case atStart => exact ⟨0, Nat.zero_le _, rfl, Lib.hid (fun j hj => by omega), Lib.hid (Below.refl _ _)⟩
  case round =>
    obtain ⟨k, hk, rfl, HF, HB⟩ := hrel
    by_cases hlt : k < l.length
    · obtain ⟨_, _, hsl, _, hcs⟩ := HL.out wr HB.out
      injection hsl with hs1 hs2 hs3
      subst hs1 hs3
      obtain ⟨g, off, rfl, _, hc⟩ := hcs k _ (ints_at hlt)
      have hT := HT.out wr HB.out
      have c := hT.c
      have HP := Lib.hid hT.p
      have k0 : (0 : Int) ≤ (k : Int) := by omega
      have k1 : (k : Int) < (l.length : Int) := by omega
      clear hT hcs hs2
      cases hf : A.find (l.getD k 0) with
      | none =>
        have HE2 := Lib.hid (HE.out k hlt hf)
        have HC := Lib.hid (HN.out wr _ HP.out _ hf)
        generalize l.getD k 0 = x at *
        clear hf
        go_wp2_with fail
        refine HC.out.mono ?_
        rintro e w1 ⟨rfl, hb1⟩
        have HB2 := Lib.hid (bnext HB.out hb1)
        clear hb1
        go_wp2_with fail
        go_ret
        exact ⟨by rw [HE2.out]; rfl, HB2.out⟩
      | some i =>
        have HF2 := Lib.hid (show ∀ j, j < k + 1 → A.find (l.getD j 0) ≠ none from fun j hj => by
          by_cases e : j = k
          · subst e; rw [hf]; simp
          · exact HF.out j (by omega))
        have HC := Lib.hid (HS.out wr _ HP.out _ i hf)
        generalize l.getD k 0 = x at *
        clear hf
        generalize getV A x = y at *
        go_wp2_with fail
        refine HC.out.mono ?_
        rintro e w1 ⟨rfl, hb1⟩
        have HB2 := Lib.hid (bnext HB.out hb1)
        clear hb1
        go_wp2_with fail
        go_roundw
        case rel => exact ⟨k + 1, by omega, by go_num, HF2, HB2⟩
        case measure => simp [intOf]; omega
    · have HZ2 := Lib.hid (HZ.out (fun j hj => HF.out j (by omega)))
      go_wp2_with fail
      go_ret
      exact ⟨by rw [HZ2.out]; rfl, HB.out⟩
theorem look_yes {A : Tab} {l : List Int} (h : ∀ x ∈ l, ∃ i, A.find x = some i) : errV (lookN A l) = .nilIface := by
  unfold lookN
  rw [if_pos, errV_0]
  rw [List.all_eq_true]
  intro x hx
  obtain ⟨i, hi⟩ := h x hx
  rw [hi]; rfl
theorem look_no {A : Tab} {l : List Int} (h : ∃ x ∈ l, A.find x = none) : errV (lookN A l) = .iface 68 (.int .i64 20) := by
  unfold lookN
  rw [if_neg]
  · rfl
  · rw [List.all_eq_true]
    intro hall
    obtain ⟨x, hx, hf⟩ := h
    have := hall x hx
    rw [hf] at this
    cases this

theorem one_lst (w : World) (x : Int) (t : TypeId) : Lst (fun _ => False) (w.alloc (.cells #[.int .i64 x] t)) (.slice (some ⟨w.heap.size, 0, none⟩) 1 1) (ints [x]) := by
  refine ⟨_, 1, rfl, by simp [ints], fun j u hu => ?_⟩
  match j, hu with
  | 0, hu => simp [ints] at hu; subst hu; exact ⟨_, _, rfl, fun k => k, by simp⟩
theorem two_lst (w : World) (x y : Int) (t : TypeId) : Lst (fun _ => False) (w.alloc (.cells #[.int .i64 x, .int .i64 y] t)) (.slice (some ⟨w.heap.size, 0, none⟩) 2 2) (ints [x, y]) := by
  refine ⟨_, 2, rfl, by simp [ints], fun j u hu => ?_⟩
  match j, hu with
  | 0, hu => simp [ints] at hu; subst hu; exact ⟨_, _, rfl, fun k => k, by simp⟩
  | 1, hu => simp [ints] at hu; subst hu; exact ⟨_, _, rfl, fun k => k, by simp⟩

set_option maxHeartbeats 1000000 in
set_option maxRecDepth 100000 in
theorem tkids (T : Nat → Prop) (B : Nat) (A : Tab) (hA : A.Good) (w : World) (bt b : Nat) (h : TR T B w A bt b) (x : Int) :
    Calls Tryd.prog 53 #[.pointer (some ⟨bt, 0, none⟩), .int .i64 x] w (RowPost w (A.all.filter fun y => decide (getV A y = x))) := by
  obtain ⟨i0, hi, hz0, hz1, hz2⟩ := info_parts Tryd.info33
  have HT := Lib.hid (fun w1 (hb : Below w.heap.size w w1) => h.below hb)
  have HALL := Lib.hid (fun w1 (hb : Below w.heap.size w w1) => pall (fun _ => False) T B A hA w1 _ (h.below hb).p (fun _ k => k.elim))
  have HP := Lib.hid (fun w1 (hb : Below w.heap.size w w1) y => tparent T B A hA w1 bt b (h.below hb) y)
  have c := h.c
  have n4 : A.all.length ≤ 4096 := by
    have := allTo_len A A.gens.length
    rw [allTo_n] at this
    have := hA.n4
    omega
  obtain ⟨L, hL⟩ : ∃ L, L = A.all := ⟨_, rfl⟩
  have HLA := Lib.hid hL
  rw [← hL] at n4 ⊢
  clear h hA hL
  go_enter Tryd.func53, Tryd.ntmps53
  go_wp2_with fail
  refine (HALL.out _ (by first | exact Below.refl _ _ | assumption)).mono ?_
  rintro e w1 ⟨v, rfl, hl, hb1⟩
  rw [← HLA.out] at hl
  have HL := Lib.hid (fun w2 (hb : Below w1.heap.size w1 w2) => hl.below hb)
  obtain ⟨p, cp, rfl, hm, hrest⟩ := hl
  have HB1 := Lib.hid hb1
  rw [ints_len] at *
  clear hb1 hrest HALL HLA
  go_wp2_with fail
  go_loopw [5, 14] (fun xv i wr => ∃ k : Nat, k ≤ L.length ∧ i = .int .i64 k ∧ Hid (OwnH w1.heap.size wr xv ((L.take k).filter fun y => decide (getV A y = x))) ∧ Hid (Below w1.heap.size w1 wr)) (fun _ i _ => L.length - (intOf i).toNat)
  case atStart => exact ⟨0, Nat.zero_le _, rfl, Lib.hid (World.ownsRow_nil _ _ _ _), Lib.hid (Below.refl _ _)⟩
  case round =>
    obtain ⟨k, hk, rfl, HX, HB⟩ := hrel
    obtain ⟨px, cx, rfl⟩ := HX.out.shape
    by_cases hlt : k < L.length
    · obtain ⟨_, _, hsl, _, hcs⟩ := HL.out wr HB.out
      injection hsl with hs1 hs2 hs3
      subst hs1 hs3
      obtain ⟨g, off, rfl, _, hc⟩ := hcs k _ (ints_at hlt)
      have HBW := Lib.hid (bnext HB1.out HB.out)
      have HC := Lib.hid (HP.out wr HBW.out (L.getD k 0))
      have k0 : (0 : Int) ≤ (k : Int) := by omega
      have k1 : (k : Int) < (L.length : Int) := by omega
      have hgd : L.getD k 0 = L[k] := by simp [List.getD_eq_getElem?_getD, hlt]
      have HT := Lib.hid (show (L.take (k + 1)).filter (fun y => decide (getV A y = x)) = (L.take k).filter (fun y => decide (getV A y = x)) ++ if getV A (L.getD k 0) = x then [L.getD k 0] else [] from by
        rw [List.take_succ_eq_append_getElem hlt, List.filter_append, hgd, List.filter_cons, List.filter_nil]
        simp only [decide_eq_true_eq])
      have hn : ((L.take k).filter fun y => decide (getV A y = x)).length ≤ k := by
        have := List.length_filter_le (fun y => decide (getV A y = x)) (L.take k)
        have := List.length_take_le k L
        omega
      clear hcs hs2 hgd
      generalize (L.take k).filter (fun y => decide (getV A y = x)) = R at *
      generalize L.getD k 0 = y at *
      by_cases hy : getV A y = x
      · rw [if_pos hy] at HT
        have hq : (getV A y == x) = true := by rw [beq_iff_eq]; exact hy
        generalize getV A y = z at *
        clear hy
        go_wp2_with fail
        refine HC.out.mono ?_
        rintro e w2 ⟨rfl, hb2⟩
        have hX1 : w2.ownsRow w1.heap.size 33 1 (.slice px R.length cx) R.length (ints R) := HX.out.below hb2
        have HB2 := Lib.hid (bnext HB.out hb2)
        have hsz : w1.heap.size ≤ w2.heap.size := HB2.out.size
        have HX1 := Lib.hid hX1
        clear hX1 hb2
        go_wp2_with (at_builtin; refine wpList_append_own _ rfl _ _ 43 rfl w1.heap.size 33 i0 (.int .i64 0) 1 8 Tryd.underlying43 hi hz0 hz1 hz2 rfl (by decide) _ _ _ rfl (HX1.out.alloc _) ⟨w2.heap.size, 0, none⟩ 1 1 [.int .i64 y] rfl rfl ?a1 ?a2 ?a3 ?a4 ?a5 ?_)
        case a1 => exact news_one w2 _ _
        case a2 => intro u hu; simp at hu; subst hu; rfl
        case a3 => unfold maxLen; omega
        case a4 => omega
        case a5 => simp; omega
        intro v' w3 hown3 hgrow3 _
        have HO := Lib.hid (show OwnH w1.heap.size w3 v' (R ++ [y]) by unfold OwnH; rw [← ints_snoc, List.length_append]; exact hown3)
        have HB3 := Lib.hid (show Below w1.heap.size w1 w3 from (below_alloc HB2.out _).grown hgrow3 (by simp; omega) (fun g e => (HX1.out.lt g e).1))
        clear hown3 hgrow3
        go_wp2_with fail
        go_roundw
        case rel => exact ⟨k + 1, by omega, by go_num, by rw [HT.out]; exact HO, HB3⟩
        case measure => simp [intOf]; omega
      · rw [if_neg hy, List.append_nil] at HT
        have hq : (getV A y == x) = false := by rw [beq_eq_false_iff_ne]; exact hy
        generalize getV A y = z at *
        clear hy
        go_wp2_with fail
        refine HC.out.mono ?_
        rintro e w2 ⟨rfl, hb2⟩
        have HX1 := Lib.hid (HX.out.below hb2)
        have HB2 := Lib.hid (bnext HB.out hb2)
        clear hb2
        go_wp2_with fail
        go_roundw
        case rel => exact ⟨k + 1, by omega, by go_num, by rw [HT.out]; exact HX1, HB2⟩
        case measure => simp [intOf]; omega
    · have HE := Lib.hid (show L.take k = L from List.take_of_length_le (by omega))
      go_wp2_with fail
      go_ret
      rw [show L.filter (fun y => decide (getV A y = x)) = (L.take k).filter (fun y => decide (getV A y = x)) by rw [HE.out]]
      exact ⟨_, rfl, HX.out.base HB1.out.size, bnext HB1.out HB.out⟩
end Go.Proofs.YtlcdbblbepndoaaDoor
