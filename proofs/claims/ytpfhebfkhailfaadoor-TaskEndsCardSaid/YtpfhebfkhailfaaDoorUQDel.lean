/- The library's slices.Delete of one element, in a row of entries of a queue of jobs that is known whole; no condition but those that each row names. -/
import Derived.Test.YtpfhebfkhailfaaDoorFRow
import Derived.Test.YtpfhebfkhailfaaDoorUQRead
import Derived.Deep.RegionLaw
import Derived.Deep.DeepCutAuto
namespace Go.Proofs.YtpfhebfkhailfaaDoor
open Go.RowKit Tsk

theorem zeroEntry_J (w : World) : (zeroValue 84).run Tryd.prog w = .ok (.agg #[.int .i64 0, .int .i64 0, .int .i64 0, .int .i64 0, .int .i64 0]) w := by kernel_rfl

def DelPost_J (w : World) (B g cap n i : Nat) (l : List (Value × Int)) (e : Ending) (w' : World) : Prop :=
  e = .returned (.slice (some ⟨g, 0, none⟩) (n - 1) cap) ∧ w'.ownsRow B ET_J 5 (.slice (some ⟨g, 0, none⟩) (n - 1) cap) (n - 1) (flat (l.eraseIdx i)) ∧ Keeps (fun x => x = g) w w'

set_option maxHeartbeats 1000000 in
set_option maxRecDepth 100000 in
theorem delete_J (w : World) (B g cap n i j : Nat) (hj : j = i + 1) (l : List (Value × Int)) (hw : Wide 4 l) (hl : l.length = n) (hi : i < n) (hn4 : n ≤ 4096) (hown : w.ownsRow B ET_J 5 (.slice (some ⟨g, 0, none⟩) n cap) n (flat l)) :
    Calls Tryd.prog 74 #[.slice (some ⟨g, 0, none⟩) n cap, .int .i64 i, .int .i64 j] w (DelPost_J w B g cap n i l) := by
  obtain ⟨i0, hi0, _, hz1, _⟩ := info_parts Tryd.inf84
  obtain ⟨cur, hrow, hB, hnc, hcm, hcl, htk⟩ := row_of_own hown
  obtain ⟨news, hnews⟩ : ∃ news, news = flat (l.drop j) := ⟨_, rfl⟩
  have hlen : news.length = (n - j) * 5 := by rw [hnews, flat_len (k := 4) (fun p hp => hw p (List.mem_of_mem_drop hp))]; simp [hl]
  have hfl : (flat l).length = n * 5 := by rw [flat_len hw, hl]
  have hget : ∀ t u, news[t]? = some u → cur[j * 5 + t]? = some u := by
    intro t u hu
    have ht : t < (n - j) * 5 := by have := (List.getElem?_eq_some_iff.1 hu).1; rwa [hlen] at this
    rw [hnews, ← flat_drop hw j, List.getElem?_drop] at hu
    rw [← htk, List.getElem?_take] at hu
    rw [if_pos (by omega)] at hu
    exact hu
  obtain ⟨A, hA, hsrc⟩ : ∃ A : Addr, Hid ((if cap = j then some (⟨g, 0, none⟩ : Addr) else some ⟨g, j * 5, none⟩) = some A) ∧ Hid (∀ t u, news[t]? = some u → w.drew.cell? (A.add t) = some u) := by
    by_cases h : cap = j
    · refine ⟨⟨g, 0, none⟩, Lib.hid (by simp [h]), fun t u hu => ?_⟩
      have h0 : news.length = 0 := by rw [hlen]; omega
      rw [List.length_eq_zero_iff.1 h0] at hu
      simp at hu
    · refine ⟨⟨g, j * 5, none⟩, Lib.hid (by simp [h]), fun t u hu => ?_⟩
      rw [Addr.add_lit]
      exact (hrow.drew.cell _).trans (hget t u hu)
  have s1 := Lib.hid hlen
  have s2 := Lib.hid (show ∀ u ∈ news, u.oneCell' = true from fun u hu => flat_one_cell (k := 4) (l := l.drop j) (fun p hp => hw p (List.mem_of_mem_drop hp)) u (hnews ▸ hu))
  have s3 : Hid (∀ t, t < news.length → (w.drew.cell? ⟨g, 0 + i * 5 + t, none⟩).isSome = true ∧ w.drew.frozen? ⟨g, 0 + i * 5 + t, none⟩ = false) := by
    intro t ht
    rw [hlen] at ht
    exact ⟨by rw [hrow.drew.cell, List.getElem?_eq_getElem (by omega)]; rfl, hrow.drew.free _⟩
  obtain ⟨W1, hW1⟩ : ∃ W1, W1 = w.drew.setCells g (0 + i * 5) news := ⟨_, rfl⟩
  have hrow1 : Row ET_J W1 g (splice cur (0 + i * 5) news) := by rw [hW1]; exact Row.setCells news _ hrow.drew (by rw [hlen]; omega)
  have HW := Lib.hid hW1
  have hclr : ∀ ty, (Builtin.clear_ #[80] ty #[.slice (some ⟨g, (i + (n - j)) * 5, none⟩) (n - (i + (n - j))) (cap - (i + (n - j)))]).run Tryd.prog W1 = .ok (.tuple #[]) (W1.setCells g ((i + (n - j)) * 5) (zeros #[.int .i64 0, .int .i64 0, .int .i64 0, .int .i64 0, .int .i64 0] (n - (i + (n - j))))) :=
    fun ty => run_clear_row W1 _ _ ty (.agg #[.int .i64 0, .int .i64 0, .int .i64 0, .int .i64 0, .int .i64 0]) Tryd.underlying80 zeroEntry_J (by simp [Value.cells, Value.oneCell']) hrow1 _ _ _ (by omega) (by rw [splice_len (by rw [hlen]; omega), hcl]; simp [Value.cells]; omega)
  have HF := Lib.hid (show DelPost_J w B g cap n i l (.returned (.slice (some ⟨g, 0, none⟩) (i + (n - j)) cap)) (W1.setCells g ((i + (n - j)) * 5) (zeros #[.int .i64 0, .int .i64 0, .int .i64 0, .int .i64 0, .int .i64 0] (n - (i + (n - j))))) from by
    have e1 : i + (n - j) = n - 1 := by omega
    rw [e1]
    refine ⟨rfl, ?_, ?_⟩
    · refine own_of_row (Row.setCells _ _ hrow1 (by rw [zeros_len, splice_len (by rw [hlen]; omega), hcl]; simp; omega)) hB (by omega) hcm ?_ ?_
      · rw [splice_len (by rw [zeros_len, splice_len (by rw [hlen]; omega), hcl]; simp; omega), splice_len (by rw [hlen]; omega), hcl]
      · have ea : cur.take (i * 5) = flat (l.take i) := by
          rw [← flat_take (k := 4) hw i, ← htk, List.take_take]; congr 1; omega
        rw [splice_take (Nat.le_refl _) (by rw [splice_len (by rw [hlen]; omega), hcl]; omega),
          show (n - 1) * 5 = (0 + i * 5) + news.length from by rw [hlen]; omega, splice_mid (by omega), Nat.zero_add, ea, hnews, List.eraseIdx_eq_take_drop_succ, flat_append, hj]
    · rw [hW1]
      exact setCells_keeps _ _ (setCells_keeps _ _ ((Keeps.refl (fun x => x = g) w).drew) (.inl rfl)) (.inl rfl))
  have HR1 := Lib.hid hrow1
  have e1 : i + (n - j) = n - 1 := by omega
  have HE := Lib.hid e1
  have hnn : n ≤ cap := hnc
  have hic : i ≤ cap := by omega
  have hjc : j ≤ cap := by omega
  have hij : i ≤ j := by omega
  have hij' : i < j := by omega
  have hjn : j ≤ n := by omega
  have hz : ((i : Int) == (j : Int)) = false := by simp; omega
  have HJ := Lib.hid hj
  clear hj hW1 hrow1 e1 hget hnews hlen hfl hown htk hl
  go_enter Tryd.func74, Tryd.ntmps74
  go_wp2_with fail
  obtain ⟨HA⟩ : Nonempty (Hid True) := ⟨trivial⟩
  go_region_law (refine step_append_room rfl (.tmp 22) (.tmp 25) 80 rfl 84 i0 5 Tryd.underlying80 hi0 hz1 g 0 i cap (by simp [Act.eval, Act.put]) A (n - j) (cap - j) news (by simp [Act.eval, Act.put, hA.out]) s1.out hsrc.out s2.out (by omega) s3.out ?_; rw [← HW.out])
  have q1 : i + (n - j) ≤ n := by have := HE.out; omega
  have q2 : ((i + (n - j) : Nat) : Int) ≤ (n : Int) := by omega
  go_wp2_with fail
  all_goals
    go_ret
    first
      | exact HF.out
      | (have hq : cap = j := by assumption
         have hf := HF.out
         rw [hq] at hf
         exact hf)
end Go.Proofs.YtpfhebfkhailfaaDoor
