/- The library's slices.Delete of one entry, in a row of entries of a heap that is known whole; no condition but those that each row names. -/
import Derived.Test.YtknhjbfhkfngeaaERise
import Derived.Deep.RegionLaw
import Derived.Deep.DeepCutAuto
namespace Go.Proofs.Ytknhjbfhkfngeaa
open Go.RowKit Go.Maps Hp

theorem cells2_drop {α : Type} (enc : α → Value) : ∀ (l : List (Int × α)) (m : Nat), (cells2 enc l).drop (m * 2) = cells2 enc (l.drop m)
  | [], m => by simp [cells2]
  | e :: r, 0 => by simp [cells2]
  | e :: r, m + 1 => by
    have ih := cells2_drop enc r m
    simp only [cells2, List.drop_succ_cons, show (m + 1) * 2 = m * 2 + 1 + 1 from by omega, ih]
theorem Try.inf51 : (Try.prog.info? 51).map (fun i => (i.zero, i.size, i.bytes)) = some (some (.agg #[.int .i64 0, .int .i64 0]), 2, 16) := by kernel_rfl
theorem zeroEntry_I (w : World) : (zeroValue 51).run Try.prog w = .ok (.agg #[.int .i64 0, .int .i64 0]) w := by kernel_rfl

def DelPost_I (w : World) (B g cap n i : Nat) (l : List (Int × Int)) (e : Ending) (w' : World) : Prop :=
  e = .returned (.slice (some ⟨g, 0, none⟩) (n - 1) cap) ∧ w'.ownsRow B NT_I 2 (.slice (some ⟨g, 0, none⟩) (n - 1) cap) (n - 1) (cells2 enc_I (l.eraseIdx i)) ∧ Keeps (fun x => x = g) w w'

set_option maxHeartbeats 1000000 in
set_option maxRecDepth 100000 in
theorem delete_I (w : World) (B g cap n i j : Nat) (hj : j = i + 1) (l : List (Int × Int)) (hl : l.length = n) (hi : i < n) (hn4 : n ≤ 4096) (hown : w.ownsRow B NT_I 2 (.slice (some ⟨g, 0, none⟩) n cap) n (cells2 enc_I l)) :
    Calls Try.prog 26 #[.slice (some ⟨g, 0, none⟩) n cap, .int .i64 i, .int .i64 j] w (DelPost_I w B g cap n i l) := by
  obtain ⟨i0, hi0, _, hz1, _⟩ := info_parts Try.inf51
  obtain ⟨cur, hrow, hB, hnc, hcm, hcl, htk⟩ := row_of_own hown
  obtain ⟨news, hnews⟩ : ∃ news, news = cells2 enc_I (l.drop j) := ⟨_, rfl⟩
  have hlen : news.length = (n - j) * 2 := by rw [hnews, cells2_len]; simp [hl]
  have hfl : (cells2 enc_I l).length = n * 2 := by rw [cells2_len, hl]
  have hget : ∀ t u, news[t]? = some u → cur[j * 2 + t]? = some u := by
    intro t u hu
    have ht : t < (n - j) * 2 := by have := (List.getElem?_eq_some_iff.1 hu).1; rwa [hlen] at this
    rw [hnews, ← cells2_drop enc_I l j, List.getElem?_drop] at hu
    rw [← htk, List.getElem?_take] at hu
    rw [if_pos (by omega)] at hu
    exact hu
  obtain ⟨A, hA, hsrc⟩ : ∃ A : Addr, Hid ((if cap = j then some (⟨g, 0, none⟩ : Addr) else some ⟨g, j * 2, none⟩) = some A) ∧ Hid (∀ t u, news[t]? = some u → w.drew.cell? (A.add t) = some u) := by
    by_cases h : cap = j
    · refine ⟨⟨g, 0, none⟩, Lib.hid (by simp [h]), fun t u hu => ?_⟩
      have h0 : news.length = 0 := by rw [hlen]; omega
      rw [List.length_eq_zero_iff.1 h0] at hu
      simp at hu
    · refine ⟨⟨g, j * 2, none⟩, Lib.hid (by simp [h]), fun t u hu => ?_⟩
      rw [Addr.add_lit]
      exact (hrow.drew.cell _).trans (hget t u hu)
  have s1 := Lib.hid hlen
  have s2 := Lib.hid (show ∀ u ∈ news, u.oneCell' = true from fun u hu => cells2_one enc_I (fun _ => rfl) (l.drop j) u (hnews ▸ hu))
  have s3 : Hid (∀ t, t < news.length → (w.drew.cell? ⟨g, 0 + i * 2 + t, none⟩).isSome = true ∧ w.drew.frozen? ⟨g, 0 + i * 2 + t, none⟩ = false) := by
    intro t ht
    rw [hlen] at ht
    exact ⟨by rw [hrow.drew.cell, List.getElem?_eq_getElem (by omega)]; rfl, hrow.drew.free _⟩
  obtain ⟨W1, hW1⟩ : ∃ W1, W1 = w.drew.setCells g (0 + i * 2) news := ⟨_, rfl⟩
  have hrow1 : Row NT_I W1 g (splice cur (0 + i * 2) news) := by rw [hW1]; exact Row.setCells news _ hrow.drew (by rw [hlen]; omega)
  have HW := Lib.hid hW1
  have hclr : ∀ ty, (Builtin.clear_ #[46] ty #[.slice (some ⟨g, (i + (n - j)) * 2, none⟩) (n - (i + (n - j))) (cap - (i + (n - j)))]).run Try.prog W1 = .ok (.tuple #[]) (W1.setCells g ((i + (n - j)) * 2) (zeros #[.int .i64 0, .int .i64 0] (n - (i + (n - j))))) :=
    fun ty => run_clear_row W1 _ _ ty (.agg #[.int .i64 0, .int .i64 0]) Try.underlying46 zeroEntry_I (by simp [Value.cells, Value.oneCell']) hrow1 _ _ _ (by omega) (by rw [splice_len (by rw [hlen]; omega), hcl]; simp [Value.cells]; omega)
  have HF := Lib.hid (show DelPost_I w B g cap n i l (.returned (.slice (some ⟨g, 0, none⟩) (i + (n - j)) cap)) (W1.setCells g ((i + (n - j)) * 2) (zeros #[.int .i64 0, .int .i64 0] (n - (i + (n - j))))) from by
    have e1 : i + (n - j) = n - 1 := by omega
    rw [e1]
    refine ⟨rfl, ?_, ?_⟩
    · refine own_of_row (Row.setCells _ _ hrow1 (by rw [zeros_len, splice_len (by rw [hlen]; omega), hcl]; simp; omega)) hB (by omega) hcm ?_ ?_
      · rw [splice_len (by rw [zeros_len, splice_len (by rw [hlen]; omega), hcl]; simp; omega), splice_len (by rw [hlen]; omega), hcl]
      · have ea : cur.take (i * 2) = cells2 enc_I (l.take i) := by
          rw [← cells2_take enc_I l i, ← htk, List.take_take]; congr 1; omega
        rw [splice_take (Nat.le_refl _) (by rw [splice_len (by rw [hlen]; omega), hcl]; omega),
          show (n - 1) * 2 = (0 + i * 2) + news.length from by rw [hlen]; omega, splice_mid (by omega), Nat.zero_add, ea, hnews, List.eraseIdx_eq_take_drop_succ, cells2_append, hj]
    · rw [hW1]
      exact setCells_keeps _ _ (setCells_keeps _ _ ((Keeps.refl (fun x => x = g) w).drew) (.inl rfl)) (.inl rfl))
  have HR1 := Lib.hid hrow1
  have e1 : i + (n - j) = n - 1 := by omega
  have HE := Lib.hid e1
  have hnn : n ≤ cap := hnc
  have hic : i ≤ cap := by omega
  have hjc : j ≤ cap := by omega
  have hij : i ≤ j := by omega
  have hij' : i < j := by omega
  have hjn : j ≤ n := by omega
  have hz : ((i : Int) == (j : Int)) = false := by simp; omega
  have HJ := Lib.hid hj
  clear hj hW1 hrow1 e1 hget hnews hlen hfl hown htk hl
  go_enter Try.func26, Try.ntmps26
  go_wp2_with fail
  obtain ⟨HA⟩ : Nonempty (Hid True) := ⟨trivial⟩
  go_region_law (refine step_append_room rfl (.tmp 22) (.tmp 25) 46 rfl 51 i0 2 Try.underlying46 hi0 hz1 g 0 i cap (by simp [Act.eval, Act.put]) A (n - j) (cap - j) news (by simp [Act.eval, Act.put, hA.out]) s1.out hsrc.out s2.out (by omega) s3.out ?_; rw [← HW.out])
  have q1 : i + (n - j) ≤ n := by have := HE.out; omega
  have q2 : ((i + (n - j) : Nat) : Int) ≤ (n : Int) := by omega
  go_wp2_with fail
  all_goals
    go_ret
    first
      | exact HF.out
      | (have hq : cap = j := by assumption
         have hf := HF.out
         rw [hq] at hf
         exact hf)
end Go.Proofs.Ytknhjbfhkfngeaa
