/- The program's Of where no claim is; claim, living; no condition but those that each row names. -/
import Derived.Test.YtilbohjkkdkdiaaGFx
namespace Go.Proofs.Ytilbohjkkdkdiaa
open Go.RowKit

set_option maxHeartbeats 1000000 in
theorem of_gone (b : Nat) (f : Nat → Cl) (k : Nat) (w : World) (hk : k < 64) (hb : BK BT w b f) (hn : f k = zc) : Calls Try.prog 19 #[.pointer (some ⟨b, 0, none⟩), .int .i64 k] w fun e w' => e = .returned (.tuple #[(.agg #[.int .i64 0, .int .i64 0, .int .i64 0, .bool false]), .bool false]) ∧ Below w.heap.size w w' := by
  have HS := fun w => Lib.hid (slot_yes k w (by omega) (by omega))
  obtain ⟨c0, c1, c2, c3⟩ := hb.cells k hk
  have hlt := hb.lt
  rw [hn] at c0 c1 c2 c3
  simp only [zc] at c0 c1 c2 c3
  have hk' : (k : Int) < 64 := by omega
  clear hb hk hn
  go_enter Try.func19, Try.ntmps19
  go_wp2_with fail
  refine (HS _).out.mono ?_
  rintro e w1 ⟨rfl, rfl⟩
  go_wp2_with fail
  go_region
  all_goals
    go_wp2_with fail
    refine bodyPost_ret (v := .tuple #[(.agg #[.int .i64 0, .int .i64 0, .int .i64 0, .bool false]), .bool false]) (by simp [results, Try.results19, go_sem]) rfl ⟨rfl, ?_⟩
    exact (by repeat (first | exact Below.refl _ _ | (with_reducible assumption) | refine Below.drew ?_ | (refine Below.alloc ?_ (by first | exact Nat.le_refl _ | omega | (simp; done) | (simp; omega)) _) | (refine Below.setCell ?_ (by first | omega | (simp; done) | (simp; omega)) _)))
theorem of_no (b : Nat) (f : Nat → Cl) (s : Int) (w : World) (hb : BK BT w b f) (hG : Good f) (h : ¬ there f s) : Calls Try.prog 19 #[.pointer (some ⟨b, 0, none⟩), .int .i64 s] w fun e w' => e = .returned (.tuple #[(.agg #[.int .i64 0, .int .i64 0, .int .i64 0, .bool false]), .bool false]) ∧ Below w.heap.size w w' := by
  by_cases hs : 0 ≤ s ∧ s < 64
  · obtain ⟨k, rfl⟩ : ∃ k : Nat, s = k := ⟨s.toNat, by omega⟩
    have hk : k < 64 := by omega
    exact of_gone b f k w hk hb (hG.gone hk (fun e => h ((there_nat hk).2 e)))
  · exact of_bad b s w (by omega)

theorem claim_nil (s : Int) (w : World) : Calls Try.prog 38 #[.pointer none, .int .i64 s] w fun e w' => e = .returned (.tuple #[(.agg #[.int .i64 0, .int .i64 0, .int .i64 0, .bool false]), .iface 69 (.int .i64 50)]) ∧ Below w.heap.size w w' := by
  go_enter Try.func38, Try.ntmps38
  go_wp2_with fail
  refine bodyPost_ret (v := .tuple #[(.agg #[.int .i64 0, .int .i64 0, .int .i64 0, .bool false]), .iface 69 (.int .i64 50)]) (by simp [results, Try.results38, go_sem]) rfl ⟨rfl, ?_⟩
  exact (by repeat (first | exact Below.refl _ _ | (with_reducible assumption) | refine Below.drew ?_ | (refine Below.alloc ?_ (by first | exact Nat.le_refl _ | omega | (simp; done) | (simp; omega)) _) | (refine Below.setCell ?_ (by first | omega | (simp; done) | (simp; omega)) _)))
set_option maxHeartbeats 2000000 in
theorem claim_no (b : Nat) (f : Nat → Cl) (s : Int) (w : World) (hb : BK BT w b f) (hG : Good f) (h : ¬ there f s) : Calls Try.prog 38 #[.pointer (some ⟨b, 0, none⟩), .int .i64 s] w fun e w' => e = .returned (.tuple #[(.agg #[.int .i64 0, .int .i64 0, .int .i64 0, .bool false]), .iface 69 (.int .i64 20)]) ∧ Below w.heap.size w w' := by
  have HO := Lib.hid fun o => of_no b f s (w.alloc o) (hb.alloc o) hG h
  clear hb hG h
  go_enter Try.func38, Try.ntmps38
  go_wp2_with fail
  refine (HO.out _).mono ?_
  rintro e w1 ⟨rfl, hb1⟩
  have hbw := bnext ((Below.refl _ _).alloc (Nat.le_refl _) _) hb1
  obtain ⟨hc, hf⟩ := bcell hb1
  have hz : w.heap.size < w1.heap.size := by have := hb1.size; simp at this; omega
  have HBW := Lib.hid hbw
  clear hb1 hbw
  go_wp2_with fail
  have hbw := HBW.out
  refine bodyPost_ret (v := .tuple #[(.agg #[.int .i64 0, .int .i64 0, .int .i64 0, .bool false]), .iface 69 (.int .i64 20)]) (by simp [results, Try.results38, go_sem, hc, hz]) rfl ⟨rfl, ?_⟩
  exact (by repeat (first | exact Below.refl _ _ | (with_reducible assumption) | refine Below.drew ?_ | (refine Below.alloc ?_ (by first | exact Nat.le_refl _ | omega | (simp; done) | (simp; omega)) _) | (refine Below.setCell ?_ (by first | omega | (simp; done) | (simp; omega)) _)))
set_option maxHeartbeats 1000000 in
theorem claim_yes (b : Nat) (f : Nat → Cl) (k : Nat) (w : World) (hk : k < 64) (hb : BK BT w b f) (hn : 1 ≤ (f k).n) : Calls Try.prog 38 #[.pointer (some ⟨b, 0, none⟩), .int .i64 k] w fun e w' => e = .returned (.tuple #[.agg #[.int .i64 (f k).s, .int .i64 (f k).n, .int .i64 (f k).x, .bool (f k).d], .nilIface]) ∧ Below w.heap.size w w' := by
  have HO := Lib.hid fun o => of_there b f k (w.alloc o) hk (hb.alloc o) hn
  clear hb hk hn
  generalize f k = c at *
  go_enter Try.func38, Try.ntmps38
  go_wp2_with fail
  refine (HO.out _).mono ?_
  rintro e w1 ⟨rfl, hb1⟩
  have hbw := bnext ((Below.refl _ _).alloc (Nat.le_refl _) _) hb1
  obtain ⟨hc, hf⟩ := bcell hb1
  have hz : w.heap.size < w1.heap.size := by have := hb1.size; simp at this; omega
  have HBW := Lib.hid hbw
  clear hb1 hbw
  go_wp2_with fail
  have hbw := HBW.out
  refine bodyPost_ret (v := .tuple #[.agg #[.int .i64 c.s, .int .i64 c.n, .int .i64 c.x, .bool c.d], .nilIface]) (by simp [results, Try.results38, go_sem, hc, hz]) rfl ⟨rfl, ?_⟩
  exact (by repeat (first | exact Below.refl _ _ | (with_reducible assumption) | refine Below.drew ?_ | (refine Below.alloc ?_ (by first | exact Nat.le_refl _ | omega | (simp; done) | (simp; omega)) _) | (refine Below.setCell ?_ (by first | omega | (simp; done) | (simp; omega)) _)))

set_option maxHeartbeats 2000000 in
/-- living, of what claim answers. -/
theorem living_err (b : Value) (s : Int) (n : Int) (w : World) (h : ∀ o, Calls Try.prog 38 #[b, .int .i64 s] (w.alloc o) fun e w' => e = .returned (.tuple #[(.agg #[.int .i64 0, .int .i64 0, .int .i64 0, .bool false]), .iface 69 (.int .i64 n)]) ∧ Below (w.alloc o).heap.size (w.alloc o) w') :
    Calls Try.prog 42 #[b, .int .i64 s] w fun e w' => e = .returned (.tuple #[(.agg #[.int .i64 0, .int .i64 0, .int .i64 0, .bool false]), .iface 69 (.int .i64 n)]) ∧ Below w.heap.size w w' := by
  have HO := Lib.hid h
  clear h
  go_enter Try.func42, Try.ntmps42
  go_wp2_with fail
  refine (HO.out _).mono ?_
  rintro e w1 ⟨rfl, hb1⟩
  have hbw := bnext ((Below.refl _ _).alloc (Nat.le_refl _) _) hb1
  obtain ⟨hc, hf⟩ := bcell hb1
  have hz : w.heap.size < w1.heap.size := by have := hb1.size; simp at this; omega
  have HBW := Lib.hid hbw
  clear hb1 hbw
  go_wp2_with fail
  have hbw := HBW.out
  refine bodyPost_ret (v := .tuple #[(.agg #[.int .i64 0, .int .i64 0, .int .i64 0, .bool false]), .iface 69 (.int .i64 n)]) (by simp [results, Try.results42, go_sem, hc, hz]) rfl ⟨rfl, ?_⟩
  exact (by repeat (first | exact Below.refl _ _ | (with_reducible assumption) | refine Below.drew ?_ | (refine Below.alloc ?_ (by first | exact Nat.le_refl _ | omega | (simp; done) | (simp; omega)) _) | (refine Below.setCell ?_ (by first | omega | (simp; done) | (simp; omega)) _)))
theorem living_nil (s : Int) (w : World) : Calls Try.prog 42 #[.pointer none, .int .i64 s] w fun e w' => e = .returned (.tuple #[(.agg #[.int .i64 0, .int .i64 0, .int .i64 0, .bool false]), .iface 69 (.int .i64 50)]) ∧ Below w.heap.size w w' :=
  living_err _ _ _ w (fun _ => claim_nil s _)
theorem living_no (b : Nat) (f : Nat → Cl) (s : Int) (w : World) (hb : BK BT w b f) (hG : Good f) (h : ¬ there f s) : Calls Try.prog 42 #[.pointer (some ⟨b, 0, none⟩), .int .i64 s] w fun e w' => e = .returned (.tuple #[(.agg #[.int .i64 0, .int .i64 0, .int .i64 0, .bool false]), .iface 69 (.int .i64 20)]) ∧ Below w.heap.size w w' :=
  living_err _ _ _ w (fun o => claim_no b f s _ (hb.alloc o) hG h)
set_option maxHeartbeats 1000000 in
theorem living_at (b : Nat) (f : Nat → Cl) (k : Nat) (w : World) (hk : k < 64) (hb : BK BT w b f) (hn : 1 ≤ (f k).n) : Calls Try.prog 42 #[.pointer (some ⟨b, 0, none⟩), .int .i64 k] w fun e w' =>
    e = .returned (if (f k).d = true then .tuple #[(.agg #[.int .i64 0, .int .i64 0, .int .i64 0, .bool false]), .iface 69 (.int .i64 92)] else .tuple #[.agg #[.int .i64 (f k).s, .int .i64 (f k).n, .int .i64 (f k).x, .bool (f k).d], .nilIface]) ∧ Below w.heap.size w w' := by
  have HO := Lib.hid fun o => claim_yes b f k (w.alloc o) hk (hb.alloc o) hn
  clear hb hk hn
  generalize f k = c at *
  obtain ⟨cs, cn, cx, cd⟩ := c
  simp only at HO ⊢
  cases cd with
  | false =>
    go_enter Try.func42, Try.ntmps42
    go_wp2_with fail
    refine (HO.out _).mono ?_
    rintro e w1 ⟨rfl, hb1⟩
    have hbw := bnext ((Below.refl _ _).alloc (Nat.le_refl _) _) hb1
    obtain ⟨hc, hf⟩ := bcell hb1
    have hz : w.heap.size < w1.heap.size := by have := hb1.size; simp at this; omega
    have HBW := Lib.hid hbw
    clear hb1 hbw
    go_wp2_with fail
    have hbw := HBW.out
    refine bodyPost_ret (v := .tuple #[.agg #[.int .i64 cs, .int .i64 cn, .int .i64 cx, .bool false], .nilIface]) (by simp [results, Try.results42, go_sem, hc, hz]) rfl ⟨rfl, ?_⟩
    exact (by repeat (first | exact Below.refl _ _ | (with_reducible assumption) | refine Below.drew ?_ | (refine Below.alloc ?_ (by first | exact Nat.le_refl _ | omega | (simp; done) | (simp; omega)) _) | (refine Below.setCell ?_ (by first | omega | (simp; done) | (simp; omega)) _)))
  | true =>
    go_enter Try.func42, Try.ntmps42
    go_wp2_with fail
    refine (HO.out _).mono ?_
    rintro e w1 ⟨rfl, hb1⟩
    have hbw := bnext ((Below.refl _ _).alloc (Nat.le_refl _) _) hb1
    obtain ⟨hc, hf⟩ := bcell hb1
    have hz : w.heap.size < w1.heap.size := by have := hb1.size; simp at this; omega
    have HBW := Lib.hid hbw
    clear hb1 hbw
    go_wp2_with fail
    have hbw := HBW.out
    refine bodyPost_ret (v := .tuple #[(.agg #[.int .i64 0, .int .i64 0, .int .i64 0, .bool false]), .iface 69 (.int .i64 92)]) (by simp [results, Try.results42, go_sem, hc, hz]) rfl ⟨rfl, ?_⟩
    exact (by repeat (first | exact Below.refl _ _ | (with_reducible assumption) | refine Below.drew ?_ | (refine Below.alloc ?_ (by first | exact Nat.le_refl _ | omega | (simp; done) | (simp; omega)) _) | (refine Below.setCell ?_ (by first | omega | (simp; done) | (simp; omega)) _)))
theorem living_yes (b : Nat) (f : Nat → Cl) (k : Nat) (n x : Int) (w : World) (hk : k < 64) (hb : BK BT w b f) (hc : f k = ⟨k, n, x, false⟩) (hn : 1 ≤ n) : Calls Try.prog 42 #[.pointer (some ⟨b, 0, none⟩), .int .i64 k] w fun e w' => e = .returned (.tuple #[.agg #[.int .i64 k, .int .i64 n, .int .i64 x, .bool false], .nilIface]) ∧ Below w.heap.size w w' := by
  have h := living_at b f k w hk hb (by rw [hc]; exact hn)
  rw [hc] at h
  simpa using h
theorem living_dying (b : Nat) (f : Nat → Cl) (k : Nat) (n x : Int) (w : World) (hk : k < 64) (hb : BK BT w b f) (hc : f k = ⟨k, n, x, true⟩) (hn : 1 ≤ n) : Calls Try.prog 42 #[.pointer (some ⟨b, 0, none⟩), .int .i64 k] w fun e w' => e = .returned (.tuple #[(.agg #[.int .i64 0, .int .i64 0, .int .i64 0, .bool false]), .iface 69 (.int .i64 92)]) ∧ Below w.heap.size w w' := by
  have h := living_at b f k w hk hb (by rw [hc]; exact hn)
  rw [hc] at h
  simpa using h
theorem claim_at (b : Nat) (f : Nat → Cl) (k : Nat) (n x : Int) (d : Bool) (w : World) (hk : k < 64) (hb : BK BT w b f) (hc : f k = ⟨k, n, x, d⟩) (hn : 1 ≤ n) : Calls Try.prog 38 #[.pointer (some ⟨b, 0, none⟩), .int .i64 k] w fun e w' => e = .returned (.tuple #[.agg #[.int .i64 k, .int .i64 n, .int .i64 x, .bool d], .nilIface]) ∧ Below w.heap.size w w' := by
  have h := claim_yes b f k w hk hb (by rw [hc]; exact hn)
  rw [hc] at h
  exact h
end Go.Proofs.Ytilbohjkkdkdiaa
