/- The program's All of a heap of numbers: the numbers in the order; no condition but those that each row names. -/
-- noS
import Derived.Test.YtodcnlmodoahjaaDoorEOps
import Derived.Test.YtodcnlmodoahjaaDoorEShelf
namespace Go.Proofs.YtodcnlmodoahjaaDoor
open Go.RowKit Go.Maps Go.Sort Hp

/-- One order of the same entries. -/
theorem sorted_same {β : Type} {ah : β → β → Bool} (O : Hp.Ord ah) : ∀ {l l' : List β}, l.Pairwise (le ah) → l'.Pairwise (le ah) → l.Perm l' → l = l'
  | [], l', _, _, hp => hp.nil_eq
  | x :: r, [], _, _, hp => absurd hp.symm.nil_eq (by simp)
  | x :: r, y :: r', h, h', hp => by
    have hx : x ∈ y :: r' := hp.mem_iff.1 (by simp)
    have hy : y ∈ x :: r := hp.mem_iff.2 (by simp)
    have e : x = y := by
      rcases List.mem_cons.1 hx with e | hx
      · exact e
      · rcases List.mem_cons.1 hy with e | hy
        · exact e.symm
        · have h1 := (List.pairwise_cons.1 h).1 y hy
          have h2 := (List.pairwise_cons.1 h').1 x hx
          exact O.tot h2 h1
    subst e
    rw [sorted_same O (List.pairwise_cons.1 h).2 (List.pairwise_cons.1 h').2 hp.cons_inv]

/-- An entry's cells. -/
def encE (x : Int × Int) : List Value := [.int .i64 x.1, .int .i64 x.2]
theorem swo_cf : SWO (ltOf (cf kc_I)) where
  irrefl x := ord_I.irr x
  trans _ _ _ h1 h2 := ord_I.trans (ah := ahB kc_I) h1 h2
  ntrans x y z h1 h2 := ord_I.le_trans (ah := ahB kc_I) (x := z) (y := y) (z := x) h2 h1
theorem ltOf_total (x y : Int × Int) (h1 : ltOf (cf kc_I) x y = false) (h2 : ltOf (cf kc_I) y x = false) : x = y := ord_I.tot (ah := ahB kc_I) h1 h2
theorem cmp_lays (blk off size : Nat) (w : World) : CmpLays Tryd.prog 30 #[] encE 2 (cf kc_I) blk off size w :=
  fun _ _ _ _ x y => (order_I x y _).mono fun _ _ ⟨he, hw⟩ => ⟨he, 0, #[.cells #[.int .i64 x.1, .int .i64 x.2] NT_I, .cells #[.int .i64 y.1, .int .i64 y.2] NT_I], by subst hw; rw [alloc_eq_grow, alloc_eq_grow, grow_grow]; rfl⟩
theorem ERow.holds {w : World} {L : List (Int × Int)} {g cap : Nat} (h : ERow enc_I NT_I w L g cap) : HoldsK encE 2 w g 0 L.toArray := by
  intro j hj
  have hj' : j < L.length * 2 := by simpa using hj
  rw [get_flatK _ _ _ _ (by simpa using hj')]
  obtain ⟨c0, c1, z0, z1⟩ := h.cells _ (j / 2) (by omega)
  have ea : L.toArray[j / 2]! = L[j / 2]'(by omega) := by simp [show j / 2 < L.length by omega]
  rw [ea, Nat.zero_add]
  rcases Nat.mod_two_eq_zero_or_one j with h2 | h2
  · have e : j = j / 2 * 2 := by omega
    rw [h2]
    rw [← e] at c0 z0
    exact ⟨c0, z0⟩
  · have e : j = j / 2 * 2 + 1 := by omega
    rw [h2]
    rw [← e] at c1 z1
    exact ⟨c1, z1⟩
theorem sort_keeps (w : World) (g n : Nat) (d : Array (Int × Int)) (os : Array Obj) : Keeps (fun x => x = g) w (sortWorldK encE 2 w g 0 n d os) := by
  refine ⟨rfl, rfl, rfl, size_sortWorldK_c encE 2 w g 0 n d os, fun b hb hne => ?_⟩
  unfold sortWorldK
  rw [heap_grow_old _ _ (by rw [size_putRowK]; exact hb)]
  unfold putRowK putRow mapBlock
  simp only [Array.getElem?_modify]
  rw [if_neg (fun e => hne e.symm)]
  rfl
/-- The entries sorted. -/
def Sorted (L Q : List (Int × Int)) : Prop := Q.Perm L ∧ Q.Pairwise (le (ahB kc_I))
theorem merge_is {L Q : List (Int × Int)} (h : Sorted L Q) : L.mergeSort (fun x y => !(ltOf (cf kc_I)) y x) = Q := by
  refine sorted_same ord_I ?_ h.2 ((List.mergeSort_perm _ _).trans h.1.symm)
  have := List.pairwise_mergeSort (le := fun x y : Int × Int => !(ltOf (cf kc_I)) y x)
    (fun a b c h1 h2 => by
      simp only [Bool.not_eq_true'] at *
      exact ord_I.le_trans (ah := ahB kc_I) (x := a) (y := b) (z := c) h1 h2)
    (fun a b => by
      rcases Bool.eq_false_or_eq_true (ltOf (cf kc_I) b a) with e | e
      · have := ord_I.asym (ah := ahB kc_I) (x := b) (y := a) e
        simp only [Bool.or_eq_true, Bool.not_eq_true']
        exact .inr this
      · simp [e]) L
  refine this.imp fun {a b} hab => ?_
  simpa [le, ahB, ltOf] using hab
/-- What the sort leaves. -/
def SortEnd (w : World) (g : Nat) (Q : List (Int × Int)) (w' : World) : Prop :=
  (∀ i (h : i < Q.length), w'.cell? ⟨g, i * 2, none⟩ = some (.int .i64 Q[i].1) ∧ w'.cell? ⟨g, i * 2 + 1, none⟩ = some (.int .i64 Q[i].2)) ∧ Keeps (fun x => x = g) w w'
theorem sort_any (w : World) (L Q : List (Int × Int)) (g cap : Nat) (h : ERow enc_I NT_I w L g cap) (hQ : Sorted L Q) (h4 : L.length ≤ 4096) :
    Calls Tryd.prog 29 #[.slice (some ⟨g, 0, none⟩) L.length cap, .func (.func 30) #[] #[]] w fun e w' => e = .returned (.tuple #[]) ∧ SortEnd w g Q w' := by
  have eg : ∀ args w, (callFunc 30 args).run Tryd.prog w = .ok (.enter 30 args) w := enters_of Tryd.func30 (by kernel_rfl) rfl
  have hcon := AnyQ.slices_SortFunc_total Tryd.laysSort 2 Tryd.isAgg57 Tryd.sizeOf57 encE (fun _ => rfl) (fun x v hv => by simp [encE] at hv; rcases hv with rfl | rfl <;> rfl) (cf kc_I) swo_cf 30 #[] g 0 cap L.toArray w eg (cmp_lays g 0 _ w) h.holds (h.lt enc_I) (by simp; omega) ltOf_total
  refine hcon.mono fun e w' ⟨he, n, os, hw⟩ => ⟨he, ?_⟩
  rw [List.toList_toArray, merge_is hQ] at hw
  have hs : Q.toArray.size = L.toArray.size := by simp [hQ.1.length_eq]
  have hH := holdsK_sortWorldK_c encE 2 w g 0 L.toArray Q.toArray n os h.holds (h.lt enc_I) hs
  rw [← hw] at hH
  refine ⟨fun i hi => ?_, hw ▸ sort_keeps w g n _ os⟩
  have c0 := (hH.cell (i := i) (c := 0) (by simpa using hi) (by omega)).1
  have c1 := (hH.cell (i := i) (c := 1) (by simpa using hi) (by omega)).1
  rw [Nat.zero_add] at c0 c1
  have ea : Q.toArray[i]! = Q[i] := by simp [hi]
  rw [ea] at c0 c1
  exact ⟨c0, c1⟩
theorem clone_any (w : World) (L : List (Int × Int)) (g cap : Nat) (h : ERow enc_I NT_I w L g cap) (h0 : 0 < L.length) (h4 : L.length ≤ 4096) :
    Calls Tryd.prog 28 #[.slice (some ⟨g, 0, none⟩) L.length cap] w fun e w' => ∃ g' cap', e = .returned (.slice (some ⟨g', 0, none⟩) L.length cap') ∧ ERow enc_I NT_I w' L g' cap' ∧ w.heap.size ≤ g' ∧ Below w.heap.size w w' := by
  obtain ⟨i0, hi, hz0, hz1, hz2⟩ := info_parts Tryd.inf57
  have hcon := AnyE.slices_Clone Tryd.laysClone i0 (.agg #[.int .i64 0, .int .i64 0]) 2 16 hi hz0 hz1 hz2 rfl (by decide) Tryd.sizeOf57 g 0 L.length cap (cells2 enc_I L) w (cells2_len enc_I L) (by unfold maxLen; omega) (by omega) (fun j u hu => by
    obtain ⟨cur, hr, hl, ht⟩ := h
    rw [← ht, List.getElem?_take] at hu
    rw [Nat.zero_add, hr.cell]
    split at hu
    · exact hu
    · cases hu) (cells2_one enc_I (fun _ => rfl) L)
  refine hcon.mono fun e w' ⟨v, he, hown, hnil, hb⟩ => ?_
  obtain ⟨g', cap', rfl, hB, _⟩ := hown.form h0
  exact ⟨g', cap', he, (ERow.of_own enc_I rfl hown).1, hB, hb⟩

theorem Tryd.infInt : (Tryd.prog.info? 3).map (fun i => (i.zero, i.size, i.bytes)) = some (some (.int .i64 0), 1, 8) := by kernel_rfl
/-- The numbers laid so far. -/
def IdsSoFar (Q : List (Int × Int)) (k : Nat) (zs : List Value) : Prop := zs.length = Q.length ∧ ∀ j (h : j < Q.length), j < k → zs[j]? = some (.int .i64 Q[j].1)
theorem ids_step {Q : List (Int × Int)} {k : Nat} {zs : List Value} (h : IdsSoFar Q k zs) (hk : k < Q.length) : IdsSoFar Q (k + 1) (zs.set k (.int .i64 Q[k].1)) := by
  refine ⟨by simpa using h.1, fun j hj hjk => ?_⟩
  by_cases e : j = k
  · subst e; simp [h.1, hj]
  · rw [List.getElem?_set_ne (Ne.symm e)]; exact h.2 j hj (by omega)
theorem ids_end {Q : List (Int × Int)} {zs : List Value} (h : IdsSoFar Q Q.length zs) : zs = ints (Q.map (·.1)) := by
  apply List.ext_getElem?
  intro j
  by_cases hj : j < Q.length
  · rw [h.2 j hj hj]; simp [ints, hj]
  · rw [List.getElem?_eq_none (by have := h.1; omega), List.getElem?_eq_none (by simp [ints]; omega)]
def AllPost (w : World) (Q : List (Int × Int)) (e : Ending) (w' : World) : Prop := ∃ v, e = .returned v ∧ w'.ownsRow w.heap.size 3 1 v Q.length (ints (Q.map (·.1))) ∧ Below w.heap.size w w'
/-- Where the loop stands. -/
structure AllAt (w : World) (Q : List (Int × Int)) (g2 ga n k : Nat) (W : World) : Prop where
  src : ∀ i (h : i < Q.length), W.cell? ⟨g2, i * 2, none⟩ = some (.int .i64 Q[i].1) ∧ W.cell? ⟨g2, i * 2 + 1, none⟩ = some (.int .i64 Q[i].2)
  own : ∃ zs, W.ownsRow w.heap.size 3 1 (.slice (some ⟨ga, 0, none⟩) n n) n zs ∧ IdsSoFar Q k zs
  ne : g2 ≠ ga
  lt : g2 < W.heap.size
  lta : ga < W.heap.size
  ge : w.heap.size ≤ ga
  below : Below w.heap.size w W

theorem AllAt.step {w W : World} {Q : List (Int × Int)} {g2 ga n k : Nat} (h : AllAt w Q g2 ga n k W) (o : Obj) (hk : k < Q.length) : AllAt w Q g2 ga n (k + 1) ((W.setCell ⟨ga, k, none⟩ (.int .i64 Q[k].1)).alloc o) := by
  obtain ⟨zs, hown, hids⟩ := h.own
  have hkp : Keeps (fun x => x = ga) W ((W.setCell ⟨ga, k, none⟩ (.int .i64 Q[k].1)).alloc o) := ((Keeps.refl (fun x => x = ga) W).setCell _ _ (.inl rfl)).alloc o
  refine ⟨fun i hi => ⟨(hkp.cell (p := ⟨g2, _, none⟩) h.lt h.ne).trans (h.src i hi).1, (hkp.cell (p := ⟨g2, _, none⟩) h.lt h.ne).trans (h.src i hi).2⟩, ⟨_, (hown.stored k (.int .i64 Q[k].1)).1.kept (World.grownBy_alloc _ o none) (Classical.em _), ids_step hids hk⟩, h.ne, Nat.lt_of_lt_of_le h.lt hkp.size, Nat.lt_of_lt_of_le h.lta hkp.size, h.ge, ?_⟩
  exact (h.below.setCell (p := ⟨ga, k, none⟩) h.ge _).alloc (by simpa [World.setCell] using h.below.size) o
section
variable {B : Nat} {S : Nat → Prop} {w : World} {R : List (Int × Int)} {b : Nat}
theorem all_none (h : HpR kc_I enc_I HT_I NT_I B S w [] b) :
    Calls Tryd.prog 19 #[.pointer (some ⟨b, 0, none⟩)] w (AllPost w []) := by
  have HN := Lib.hid (len_I h)
  clear h
  go_enter Tryd.func19, Tryd.ntmps19
  go_wp2_with fail
  refine HN.out.mono ?_
  rintro e w1 ⟨rfl, rfl⟩
  go_wp2_with fail
  go_ret
  exact ⟨_, rfl, World.ownsRow_nil _ _ _ _, Below.refl _ _⟩
set_option maxHeartbeats 2000000 in
set_option maxRecDepth 100000 in
theorem all_used (w : World) (L Q : List (Int × Int)) (b g cap : Nat) (f0 : w.cell? ⟨b, 0, none⟩ = some (.slice (some ⟨g, 0, none⟩) L.length cap)) (hr : ERow enc_I NT_I w L g cap) (hQ : Sorted L Q) (h4 : L.length ≤ 4096) (h0 : 0 < L.length) :
    Calls Tryd.prog 19 #[.pointer (some ⟨b, 0, none⟩)] w (AllPost w Q) := by
  obtain ⟨i0, hi, hz0, hz1, hz2⟩ := info_parts Tryd.infInt
  have hlq := hQ.1.length_eq
  have HN := Lib.hid (len_of_I w b _ _ cap f0)
  have HC := Lib.hid (clone_any w L g cap hr h0 h4)
  have HS := fun (w1 : World) (g' cap' : Nat) (h : ERow enc_I NT_I w1 L g' cap') => Lib.hid (sort_any w1 L Q g' cap' h hQ h4)
  obtain ⟨n, hn⟩ : ∃ n, n = L.length := ⟨_, rfl⟩
  rw [← hn] at f0 h4 h0 HN HC HS hlq
  have HL := Lib.hid hlq
  have HLn := Lib.hid hn
  have z : ((n : Int) == 0) = false := by simp; omega
  clear hr hQ h0 hn hlq
  go_enter Tryd.func19, Tryd.ntmps19
  go_wp2_with fail
  refine HN.out.mono ?_
  rintro e w1 ⟨rfl, rfl⟩
  go_wp2_with fail
  refine HC.out.mono ?_
  rintro e w1 ⟨g2, cap2, rfl, hr1, hg2, hb1⟩
  have HS1 := HS w1 g2 cap2 hr1
  have hlt2 := hr1.lt enc_I
  have HB1 := Lib.hid hb1
  clear hr1 HS hb1 f0
  go_wp2_with fail
  refine HS1.out.mono ?_
  rintro e w2 ⟨rfl, hs2, hk2⟩
  have HSE := Lib.hid hs2
  have HB2 := Lib.hid (HB1.out.trans (hk2.below (B := w.heap.size) HB1.out.size (fun x e => by rw [e]; exact hg2)))
  have hlt3 : g2 < w2.heap.size := Nat.lt_of_lt_of_le hlt2 hk2.size
  have hws : w.heap.size ≤ w2.heap.size := HB2.out.size
  clear hs2 hk2
  go_wp2_with (at_make; refine wpList_make_full _ rfl _ _ 44 rfl w.heap.size 3 i0 (.int .i64 0) 1 Tryd.underlying44 hi hz0 hz1 .i64 .i64 _ _ n rfl rfl (by first | rfl | omega) (by first | rfl | omega) (by rw [hz2]; omega) (by unfold maxLen; omega) hws ?_; intro w3 hown3 hgrow3)
  have HA := Lib.hid (show AllAt w Q g2 w2.heap.size n 0 w3 from by
    have hk3 : Keeps (fun _ => False) w2 w3 := (Keeps.refl _ w2).grown hgrow3 (fun k e => by cases e)
    refine ⟨fun i h => ⟨(hk3.cell (p := ⟨g2, _, none⟩) hlt3 (fun k => k)).trans (HSE.out i h).1, (hk3.cell (p := ⟨g2, _, none⟩) hlt3 (fun k => k)).trans (HSE.out i h).2⟩, ⟨_, hown3, ?_, fun j _ hj => by omega⟩, by omega, Nat.lt_of_lt_of_le hlt3 hk3.size, (hown3.lt w2.heap.size rfl).2, hws, HB2.out.grown hgrow3 hws (fun k e => by cases e)⟩
    rw [hown3.1, HL.out]; simp)
  generalize w2.heap.size = ga at HA
  clear hown3 hgrow3 hlt3 hws hlt2 hg2
  go_wp2_with fail
  go_loopw [22] (fun iv wr => ∃ k : Nat, iv = .int .i64 k ∧ k ≤ n ∧ Hid (AllAt w Q g2 ga n k wr)) (fun iv _ => n - (intOf iv).toNat)
  case atStart => exact ⟨0, rfl, Nat.zero_le _, HA⟩
  case round =>
    obtain ⟨k, rfl, hk, HK⟩ := hrel
    clear HA
    by_cases hlt : k < n
    · have hkq : k < Q.length := by have := HL.out; omega
      obtain ⟨c0, c1⟩ := HK.out.src k hkq
      obtain ⟨zs, hown, hids⟩ := HK.out.own
      obtain ⟨x0, hx0⟩ : ∃ x, x = Q[k].1 := ⟨_, rfl⟩
      obtain ⟨x1, hx1⟩ : ∃ x, x = Q[k].2 := ⟨_, rfl⟩
      rw [← hx0] at c0
      rw [← hx1] at c1
      have HKQ := Lib.hid hkq
      have ka : k < n * 1 := by omega
      have d0 := (hown.cellAt k ka).trans (List.getElem?_eq_getElem (by rw [hown.1]; exact ka))
      have zf := hown.frozenAt k
      have HO := Lib.hid hown
      have hlta := HK.out.lta
      have hlt2 := HK.out.lt
      have hki : (k : Int) < (n : Int) := by omega
      generalize zs[k]'(by rw [hown.1]; exact ka) = old at d0
      clear hown hids ka
      go_wp2_with fail
      go_roundw
      case rel => exact ⟨k + 1, by go_num, by omega, Lib.hid (HK.out.step _ HKQ.out)⟩
      case measure => simp [intOf]; omega
    · obtain rfl : k = n := by omega
      obtain ⟨zs, hown, hids⟩ := HK.out.own
      have HE := Lib.hid (show AllPost w Q (.returned (.slice (some ⟨ga, 0, none⟩) k k)) wr from ⟨_, rfl, by
        have e := HL.out
        rw [← e] at hids
        rw [ids_end hids, ← e] at hown
        rw [e] at hown ⊢
        exact hown, HK.out.below⟩)
      clear hown hids
      go_wp2_with fail
      go_ret
      exact HE.out
/-- All of a heap. -/
theorem all_I (h : HpR kc_I enc_I HT_I NT_I B S w R b) (Q : List (Int × Int)) (hQ : Q.Perm R) (hs : Q.Pairwise (le (ahB kc_I))) :
    Calls Tryd.prog 19 #[.pointer (some ⟨b, 0, none⟩)] w (AllPost w Q) := by
  by_cases h0 : R = []
  · subst h0
    obtain rfl := hQ.eq_nil
    exact all_none h
  · rcases h with ⟨h, hR, hS⟩ | ⟨L, g, cap, mb, h, hh, hp, hS⟩
    · exact absurd hR h0
    · exact all_used w L Q b g cap h.f0 h.row ⟨hQ.trans hp.symm, hs⟩ h.n4 (by rw [hp.length_eq]; exact List.length_pos_iff.2 h0)
end
end Go.Proofs.YtodcnlmodoahjaaDoor
