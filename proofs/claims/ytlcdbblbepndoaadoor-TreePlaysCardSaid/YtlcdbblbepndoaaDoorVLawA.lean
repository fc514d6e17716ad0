/- The laws' own same and sure; what Add and Remove do to a tree of whatever shape; no condition but those that each row names. -/
import Derived.Test.YtlcdbblbepndoaaDoorVActs
namespace Go.Proofs.YtlcdbblbepndoaaDoor
open Go.RowKit Tr

set_option maxHeartbeats 1000000 in
theorem same_yes (w : World) (u v : Value) (l : List Int) (hu : Lst (fun _ => False) w u (ints l)) (hv : Lst (fun _ => False) w v (ints l)) (h4 : l.length ≤ 4096) :
    Calls Tryd.prog 11 #[u, v] w fun e w' => e = .returned (.bool true) ∧ Below w.heap.size w w' := by
  obtain ⟨p, cp, rfl, _, hp⟩ := hu
  obtain ⟨q, cq, rfl, _, hq⟩ := hv
  rw [ints_len]
  have HP := Lib.hid (show ∀ w1, Below w.heap.size w w1 → ∀ k (h : k < l.length), ∃ b off, p = some ⟨b, off, none⟩ ∧ w1.cell? ⟨b, off + k, none⟩ = some (.int .i64 l[k]) from fun w1 hb k h => by
    obtain ⟨b, off, e, _, hc⟩ := hp k (.int .i64 l[k]) (by simp [ints, h])
    exact ⟨b, off, e, (hb.cell (p := ⟨b, off + k, none⟩) (cell_lt hc)).trans hc⟩)
  have HQ := Lib.hid (show ∀ w1, Below w.heap.size w w1 → ∀ k (h : k < l.length), ∃ b off, q = some ⟨b, off, none⟩ ∧ w1.cell? ⟨b, off + k, none⟩ = some (.int .i64 l[k]) from fun w1 hb k h => by
    obtain ⟨b, off, e, _, hc⟩ := hq k (.int .i64 l[k]) (by simp [ints, h])
    exact ⟨b, off, e, (hb.cell (p := ⟨b, off + k, none⟩) (cell_lt hc)).trans hc⟩)
  clear hp hq
  go_enter Tryd.func11, Tryd.ntmps11
  go_wp2_with fail
  go_loopw [5] (fun iv wr => ∃ (k : Nat), iv = .int .i64 k ∧ k ≤ l.length ∧ Hid (Below w.heap.size w wr)) (fun iv _ => l.length - (intOf iv).toNat)
  case atStart => exact ⟨0, rfl, Nat.zero_le _, Lib.hid (Below.refl _ _)⟩
  case round =>
    obtain ⟨k, rfl, hk, HB⟩ := hrel
    by_cases hlt : k < l.length
    · have hlt' : (k : Int) < (l.length : Int) := by omega
      obtain ⟨b1, o1, rfl, c1⟩ := HP.out wr HB.out k hlt
      obtain ⟨b2, o2, rfl, c2⟩ := HQ.out wr HB.out k hlt
      generalize l[k] = y at c1 c2
      go_wp2_with fail
      go_quiet (fail)
      have HB2 := Lib.hid (show Below w.heap.size w (wr.drewN nq) from below_drewN HB.out _)
      go_wp2_with fail
      go_roundw
      case rel => exact ⟨k + 1, by go_num, by omega, HB2⟩
      case measure => simp [intOf]; omega
    · have hg3 : decide (k < l.length) = false := decide_eq_false hlt
      clear hlt
      go_wp2_with fail
      go_ret
      exact ⟨rfl, HB.out⟩

section
variable {T : Nat → Prop} {B : Nat} {A : Tab} {X : Sh} {bt b : Nat}

/-- A tree of some shape in a world, its blocks among T. -/
def Some (T : Nat → Prop) (B : Nat) (w : World) (bt b : Nat) : Prop := ∃ A X, Rel A X ∧ TR T B w A bt b
theorem add_some (hR : Rel A X) (w : World) (h : TR T B w A bt b) (p : Nat) (hp : X.t p = true) :
    Calls Tryd.prog 6 #[.pointer (some ⟨bt, 0, none⟩), .int .i64 (A.hd p)] w fun e w' => ∃ A' X' r c, e = .returned (.tuple #[.int .i64 r, c]) ∧ Rel A' X' ∧ TR T B w' A' bt b ∧ Keeps T w w' := by
  by_cases hd : X.d p = 8
  · refine (addT_deep hR w h p hp hd).mono ?_
    rintro e w' ⟨rfl, h1, h2⟩
    exact ⟨A, X, _, _, rfl, hR, h1, h2⟩
  · have hd' : X.d p < 8 := by have := hR.tree.d8 p hp; omega
    cases hf : A.free with
    | none =>
      refine (addT_full hR w h p hp hd' hf).mono ?_
      rintro e w' ⟨rfl, h1, h2⟩
      exact ⟨A, X, _, _, rfl, hR, h1, h2⟩
    | some s =>
      refine (addT_yes hR w h p s hp hd' hf).mono ?_
      rintro e w' ⟨rfl, h1, h2⟩
      exact ⟨_, _, _, _, rfl, (hR.add hp (by omega) hf).2, h1, h2⟩
theorem rem_some (hR : Rel A X) (w : World) (h : TR T B w A bt b) (p : Nat) (hp : X.t p = true) :
    Calls Tryd.prog 9 #[.pointer (some ⟨bt, 0, none⟩), .int .i64 (A.hd p)] w fun e w' => ∃ A' X' r c, e = .returned (.tuple #[r, c]) ∧ Rel A' X' ∧ TR T B w' A' bt b ∧ Keeps T w w' := by
  by_cases h0 : p = 0
  · subst h0
    refine (remT_root hR w h).mono ?_
    rintro e w' ⟨rfl, h1, h2⟩
    exact ⟨A, X, _, _, rfl, hR, h1, h2⟩
  · refine (remT_yes hR w h p hp h0).mono ?_
    rintro e w' ⟨v, rfl, _, h1, h2⟩
    exact ⟨_, _, _, _, rfl, hR.remove hp h0, h1, h2⟩

/-- Any number as a place in a row. -/
theorem idx_ok (y : Int) (n : Nat) (h0 : 0 < n) (h : n ≤ 64) : ∃ m : Nat, m < n ∧ wrap64 ((IntKind.u64.wrap y).tmod n) = m := by
  have h1 : 0 ≤ IntKind.u64.wrap y := by rw [IntKind.wrap_u64]; omega
  rw [Int.tmod_eq_emod_of_nonneg h1]
  have h2 : 0 ≤ IntKind.u64.wrap y % (n : Int) := Int.emod_nonneg _ (by omega)
  have h3 : IntKind.u64.wrap y % (n : Int) < n := Int.emod_lt_of_pos _ (by omega)
  generalize IntKind.u64.wrap y % (n : Int) = z at *
  refine ⟨z.toNat, by omega, ?_⟩
  unfold wrap64
  omega

theorem root_b (bt : Nat) (w : World) : Calls Tryd.prog 15 #[.pointer (some ⟨bt, 0, none⟩)] w fun e w' => e = .returned (.int .i64 1099511627777) ∧ Below w.heap.size w w' := by
  refine (root_any bt w).mono ?_
  rintro e w' ⟨rfl, rfl⟩
  exact ⟨rfl, Below.refl _ _⟩

-- the smallest tree that has a child
def A0 : Tab := (Tab.new 1 64).addAt 0 0
theorem free1 : A0.free = some 1 := by
  refine firstIn_some (fun j hj => ?_) (by simp [A0, Tab.n, Tab.addAt, Tab.new]) ?_
  · have : j = 0 := by omega
    subst this
    simp [A0, Tab.fr, Tab.t, Tab.g, Tab.addAt, Tab.new]
  · simp [A0, Tab.fr, Tab.t, Tab.g, Tab.addAt, Tab.new]
theorem rel0 : Rel A0 X0 := new_rel
theorem rel1 : CanAdd X0 0 1 ∧ Rel (A0.addAt 1 (A0.hd 0)) (X0.add 0 1) := rel0.add rfl (by decide) free1
theorem hd1 : A0.hd 1 = 1099512676353 := by
  have : A0.g 1 = 1 := by simp [A0, Tab.g, Tab.addAt, Tab.new]
  unfold Tab.hd mkH
  rw [this]
  rfl
theorem kids0 : X0.kids 0 = [] := by
  rw [List.eq_nil_iff_forall_not_mem]
  intro k hk
  obtain ⟨h1, h2, _⟩ := (mem_kids x0_good).1 hk
  simp [X0] at h1
  exact h2 h1
theorem pt1 : ((X0.add 0 1).pt 0).length = 2 := by
  obtain ⟨K1, K2, e1, _, e2, _⟩ := add_pt_p x0_good rel1.1
  rw [kids0] at e1
  obtain ⟨rfl, rfl⟩ := List.append_eq_nil_iff.1 e1.symm
  rw [e2]; rfl

set_option maxHeartbeats 1000000 in
set_option maxRecDepth 100000 in
theorem sure_any (w : World) : Calls Tryd.prog 16 #[] w fun e w' => e = .returned (.bool true) ∧ Below w.heap.size w w' := by
  have HN := Lib.hid (fun w => newT_any w)
  have HRT := Lib.hid (fun bt w => root_any bt w)
  have HA := Lib.hid (fun T B bt b w h => addT_yes (T := T) (B := B) (bt := bt) (b := b) rel0 w h 0 1 rfl (by decide) free1)
  have HD := Lib.hid (fun T B bt b w h => depth_yes (T := T) (B := B) (bt := bt) (b := b) rel1.2 w h 1 (add_ts X0 0 1))
  have HL := Lib.hid (fun T B bt b w h => all_any (T := T) (B := B) (bt := bt) (b := b) rel1.2 w h)
  have hh : (A0.addAt 1 (A0.hd 0)).hd 1 = 1099512676353 := hd1
  have h0 : A0.hd 0 = 1099511627777 := rel0.root
  have hd : ((X0.add 0 1).d 1 : Nat) = 1 := add_ds X0 0 1
  have hl : (((X0.add 0 1).pt 0).map (A0.addAt 1 (A0.hd 0)).hd).length = 2 := by rw [List.length_map, pt1]
  rw [hh, hd] at HD
  rw [hd1] at HA
  generalize (((X0.add 0 1).pt 0).map (A0.addAt 1 (A0.hd 0)).hd) = L at *
  rw [h0] at HA HD HL
  clear hh h0 hd
  go_enter Tryd.func16, Tryd.ntmps16
  go_wp2_with fail
  refine (HN.out _).mono ?_
  rintro e w1 ⟨T, bt, b, rfl, ht, hb⟩
  have HT := Lib.hid (show TR T w.heap.size w1 A0 bt b from ht)
  have HB := Lib.hid hb
  have HTL := Lib.hid ht.p.lt
  clear ht hb
  go_wp2_with fail
  refine (HRT.out _ _).mono ?_
  rintro e w2 ⟨rfl, rfl⟩
  go_wp2_with fail
  refine (HA.out _ _ _ _ _ HT.out).mono ?_
  rintro e w2 ⟨rfl, ht2, hk2⟩
  have HT2 := Lib.hid ht2
  have HB2 := Lib.hid (HB.out.trans (hk2.below HB.out.size (fun x hx => (HTL.out x hx).1)))
  clear ht2 hk2
  go_wp2_with fail
  refine (HD.out _ _ _ _ _ HT2.out).mono ?_
  rintro e w3 ⟨rfl, hb3⟩
  have HT3 := Lib.hid (HT2.out.below hb3)
  have HB3 := Lib.hid (bnext HB2.out hb3)
  clear hb3
  go_wp2_with fail
  refine (HRT.out _ _).mono ?_
  rintro e w4 ⟨rfl, rfl⟩
  go_wp2_with fail
  refine (HL.out _ _ _ _ _ HT3.out).mono ?_
  rintro e w4 ⟨v, rfl, ho, hb4⟩
  obtain ⟨p, cp, hv⟩ := ho.shape
  rw [hl] at hv
  subst hv
  have HB4 := Lib.hid (bnext HB3.out hb4)
  clear ho hb4
  go_wp2_with fail
  go_ret
  exact ⟨rfl, HB4.out⟩
end
end Go.Proofs.YtlcdbblbepndoaaDoor
