/- The program's Move, Drop and Key of a heap of numbers; no condition but those that each row names. -/
import Derived.Test.YtknhjbfhkfngeaaEOps
namespace Go.Proofs.Ytknhjbfhkfngeaa
open Go.RowKit Go.Maps Hp

theorem set_same {α : Type} {l : List α} {i : Nat} {v : α} (h : l[i]? = some v) : l.set i v = l := by
  obtain ⟨h1, rfl⟩ := List.getElem?_eq_some_iff.1 h
  exact List.set_getElem_self h1
theorem set_perm {α : Type} (l : List α) (i : Nat) (h : i < l.length) (x : α) : (l.set i x).Perm (x :: l.eraseIdx i) := by
  rw [List.set_eq_take_append_cons_drop, if_pos h, List.eraseIdx_eq_take_drop_succ]
  exact List.perm_middle
theorem get_perm {α : Type} (l : List α) (i : Nat) (h : i < l.length) : l.Perm (l[i] :: l.eraseIdx i) := by
  have := set_perm l i h l[i]
  rwa [List.set_getElem_self] at this
theorem ERow.setKey {w : World} {L : List (Int × Int)} {g cap : Nat} (h : ERow enc_I NT_I w L g cap) (i : Nat) (hi : i < L.length) (id key : Int) (he : L[i].1 = id) :
    ERow enc_I NT_I (w.setCell ⟨g, i * 2 + 1, none⟩ (.int .i64 key)) (L.set i (id, key)) g cap := by
  obtain ⟨cur, hr, hl, ht⟩ := h
  refine ⟨_, hr.set _ _, by simpa using hl, ?_⟩
  rw [List.length_set, take_set_lt, ht, cells2_set]
  congr 1
  have := (cells2_at enc_I L i hi).1
  rw [he] at this
  exact (set_same this).symm
section
variable {B : Nat} {S : Nat → Prop} {w : World} {R : List (Int × Int)} {b : Nat}
/-- Where one of R stands. -/
theorem stands {L R : List (Int × Int)} (hp : L.Perm R) {id k : Int} (hx : (id, k) ∈ R) : ∃ i, ∃ h : i < L.length, L[i] = (id, k) := by
  obtain ⟨i, hi, e⟩ := List.getElem_of_mem (hp.mem_iff.2 hx)
  exact ⟨i, hi, e⟩
theorem key_yes (h : HpR kc_I enc_I HT_I NT_I B S w R b) (id k : Int) (hx : (id, k) ∈ R) :
    Calls Try.prog 17 #[.pointer (some ⟨b, 0, none⟩), .int .i64 id] w (fun e w' => e = .returned (.tuple #[.int .i64 k, .bool true]) ∧ Below w.heap.size w w') := by
  rcases h with ⟨h, rfl, hS⟩ | ⟨L, g, cap, mb, h, hh, hp, hS⟩
  · simp at hx
  · obtain ⟨i, hi, e⟩ := stands hp hx
    have HP := Lib.hid (place_yes_I h i hi id (by rw [e]))
    have c1 := (h.row.cells _ i hi).2.1
    rw [e] at c1
    have c1' : w.cell? ⟨g, i * 2 + 1, none⟩ = some (.int .i64 k) := c1
    have f0 := h.f0
    have hi' : (i : Int) < (L.length : Int) := by omega
    clear h hh hp hS hx e c1
    go_enter Try.func17, Try.ntmps17
    go_wp2_with fail
    refine HP.out.mono ?_
    rintro e w1 ⟨rfl, rfl⟩
    go_wp2_with fail
    go_ret2
    exact ⟨rfl, Below.refl _ _⟩
/-- place, where a number is not. -/
theorem place_gone (h : HpR kc_I enc_I HT_I NT_I B S w R b) (id : Int) (hid : In64 id) (hno : ∀ e ∈ R, e.1 ≠ id) :
    Calls Try.prog 18 #[.pointer (some ⟨b, 0, none⟩), .int .i64 id] w fun e w' => e = .returned (.tuple #[.int .i64 0, .bool false]) ∧ w = w' := by
  rcases h with ⟨h, rfl, hS⟩ | ⟨L, g, cap, mb, h, hh, hp, hS⟩
  · exact place_none_I w b id hid (by rw [cell_of_row _ _ _ _ _ _ h.1]; rfl)
  · exact place_no_I h id hid (fun e he => hno e (hp.mem_iff.1 he))
theorem key_no (h : HpR kc_I enc_I HT_I NT_I B S w R b) (id : Int) (hid : In64 id) (hno : ∀ e ∈ R, e.1 ≠ id) :
    Calls Try.prog 17 #[.pointer (some ⟨b, 0, none⟩), .int .i64 id] w (fun e w' => e = .returned (.tuple #[.int .i64 0, .bool false]) ∧ Below w.heap.size w w') := by
  have HP := Lib.hid (place_gone h id hid hno)
  clear h hno hid
  go_enter Try.func17, Try.ntmps17
  go_wp2_with fail
  refine HP.out.mono ?_
  rintro e w1 ⟨rfl, rfl⟩
  go_wp2_with fail
  go_ret2
  exact ⟨rfl, Below.refl _ _⟩
theorem move_gone (h : HpR kc_I enc_I HT_I NT_I B S w R b) (id key : Int) (hid : In64 id) (hno : ∀ e ∈ R, e.1 ≠ id) :
    Calls Try.prog 12 #[.pointer (some ⟨b, 0, none⟩), .int .i64 id, .int .i64 key] w (fun e w' => e = .returned (errV 50) ∧ w = w') := by
  have HP := Lib.hid (place_gone h id hid hno)
  clear h hno hid
  go_enter Try.func12, Try.ntmps12
  go_wp2_with fail
  refine HP.out.mono ?_
  rintro e w1 ⟨rfl, rfl⟩
  go_wp2_with fail
  go_ret
  exact ⟨rfl, rfl⟩
set_option maxHeartbeats 1000000 in
theorem move_there (h : HpR kc_I enc_I HT_I NT_I B S w R b) (id k key : Int) (R' : List (Int × Int)) (hR : R.Perm ((id, k) :: R')) :
    Calls Try.prog 12 #[.pointer (some ⟨b, 0, none⟩), .int .i64 id, .int .i64 key] w (fun e w' => e = .returned .nilIface ∧ Gone kc_I enc_I HT_I NT_I B S w ((id, key) :: R') b w') := by
  have hx : (id, k) ∈ R := hR.mem_iff.2 (by simp)
  rcases h with ⟨h, rfl, hS⟩ | ⟨L, g, cap, mb, h, hh, hp, hS⟩
  · simp at hx
  · obtain ⟨i, hi, e⟩ := stands hp hx
    have HP := Lib.hid (place_yes_I h i hi id (by rw [e]))
    have c1 := (h.row.cells _ i hi).2.1
    have z1 := (h.row.cells _ i hi).2.2.2
    rw [e] at c1
    have c1' : w.cell? ⟨g, i * 2 + 1, none⟩ = some (.int .i64 k) := c1
    have f0 := h.f0
    have hi' : (i : Int) < (L.length : Int) := by omega
    have hk : Keeps (fun x => x = g ∨ x = mb) w (w.setCell ⟨g, i * 2 + 1, none⟩ (.int .i64 key)) := (Keeps.refl _ w).setCell _ _ (.inl (.inl rfl))
    have hk2 : Keeps (fun x => x = g) w (w.setCell ⟨g, i * 2 + 1, none⟩ (.int .i64 key)) := (Keeps.refl _ w).setCell _ _ (.inl rfl)
    have hids : (L.set i (id, key)).map (·.1) = L.map (·.1) := by
      rw [List.map_set]
      exact set_same (by simp [hi, e])
    have hw2 : HW enc_I HT_I NT_I B (w.setCell ⟨g, i * 2 + 1, none⟩ (.int .i64 key)) (L.set i (id, key)) b g cap mb :=
      ⟨by rw [List.length_set]; exact (hk.block b h.lt (by rintro (e | e); exact h.bg e; exact h.bm e)).trans h.blk, h.row.setKey i hi id key (by rw [e]), by simpa using h.hn, h.hc, (h.mp.keeps hk2 (fun e => h.gm e.symm)).ids hids, h.hb, h.hg, h.hm, h.bg, h.bm, h.gm, fun x hx => by
        have : x.1 ∈ L.map (·.1) := hids ▸ List.mem_map_of_mem hx
        obtain ⟨y, hy, e2⟩ := List.mem_map.1 this
        rw [← e2]; exact h.ids y hy, by simpa using h.n4⟩
    have HST := Lib.hid (settle_I hw2 i (by simpa using hi) (by
      rw [List.length_set]
      exact fix_of ord_I hh (fun j hj hne => by rw [at_set _ _ _ _ hi, if_neg hne]) hi))
    have HG := fun (w' : World) (hs : SinkEnd kc_I enc_I HT_I NT_I B (w.setCell ⟨g, i * 2 + 1, none⟩ (.int .i64 key)) (L.set i (id, key)) b g cap mb (.returned (.tuple #[])) w') => Lib.hid (show Gone kc_I enc_I HT_I NT_I B S w ((id, key) :: R') b w' from by
      obtain ⟨_, L2, hm, hh2⟩ := hs
      have hl2 := hm.perm.length_eq
      refine ⟨.inr ⟨L2, g, cap, mb, hm.hw, by rw [hl2]; exact hh2, hm.perm.trans ((set_perm L i hi _).trans (List.Perm.cons _ ?_)), hS⟩, (hk.trans hm.keeps).mono fun y hy => (hS y).2 (.inr hy)⟩
      have h1 := (get_perm L i hi).symm.trans (hp.trans hR)
      rw [e] at h1
      exact h1.cons_inv)
    clear h hh hp hS hx e c1 hk hk2 hids hw2
    go_enter Try.func12, Try.ntmps12
    go_wp2_with fail
    refine HP.out.mono ?_
    rintro e w1 ⟨rfl, rfl⟩
    go_wp2_with fail
    refine HST.out.mono ?_
    rintro e w2 ⟨rfl, hs⟩
    have HG2 := HG w2 ⟨rfl, hs⟩
    clear hs HG
    go_wp2_with fail
    go_ret
    exact ⟨rfl, HG2.out⟩
end
end Go.Proofs.Ytknhjbfhkfngeaa
