/- The program's fixed.Read, with sort.Search and the function that it hands over: of the text of units the units, of any other text the error. -/
import Derived.Test.YtlhgopdlpjmbhaaDoorText
import Derived.Test.YtlhgopdlpjmbhaaDoorDig
import Derived.Deep.RegionHeld3
import Derived.Shelf.Abstract
namespace Go.Proofs.YtlhgopdlpjmbhaaDoor
open Go.RowKit

/-- The text of n units is not below s. -/
def geB (s : ByteArray) (n : Nat) : Bool := !Op.bytesLess (decL n) s.toList

set_option maxHeartbeats 1000000 in
theorem closure_any (B n : Nat) (s : ByteArray) (w : World) (hn : n ≤ 1048576) (hs : w.cell? ⟨B, 0, none⟩ = some (.string s)) :
    Calls Tryd.prog 35 #[.int .i64 n, .pointer (some ⟨B, 0, none⟩)] w fun e w' => e = .returned (.bool (geB s n)) ∧ Below w.heap.size w w' := by
  have hB : Below w.heap.size w w := Below.refl _ _
  have hlt : B < w.heap.size := World.block_lt_of_cell? w _ hs
  go_enter Tryd.func35, Tryd.ntmps35
  go_wp2_with fail
  go_region_held3 (fun w' => w'.cell? ⟨B, 0, none⟩ = some (.string s) ∧ Below w.heap.size w w')
    (first
      | (go_split_ands; exact ⟨(hb.cell (p := ⟨B, 0, none⟩) (by assumption)).trans (by assumption), bnext (by assumption) hb⟩)
      | exact ⟨hs, Below.drew hB⟩
      | go_keep)
    (first
      | (go_at_call 32; refine (decimal_any n _ hn).mono ?_; rintro e w' ⟨rfl, hb⟩))
  go_wp2
  go_ret
  go_split_ands
  exact ⟨rfl, by assumption⟩

/-- What is known of the place that the search gives back. -/
def Found (p : Nat → Bool) (n : Nat) : Prop := n ≤ 1048576 ∧ (n = 0 ∨ p (n - 1) = false) ∧ (n = 1048576 ∨ p n = true)
/-- What is known of the two ends on the way. -/
def Ends (p : Nat → Bool) (lo hi : Nat) : Prop := (lo = 0 ∨ p (lo - 1) = false) ∧ (hi = 1048576 ∨ p hi = true)

def SearchPost (p : Nat → Bool) (w : World) (e : Ending) (w' : World) : Prop := ∃ n : Nat, e = .returned (.int .i64 n) ∧ Found p n ∧ Below w.heap.size w w'

set_option maxHeartbeats 2000000 in
set_option maxRecDepth 100000 in
theorem search_any (B : Nat) (s : ByteArray) (w : World) (hs : w.cell? ⟨B, 0, none⟩ = some (.string s)) :
    Calls Tryd.prog 34 #[.int .i64 1048576, .func (.func 35) #[] #[.pointer (some ⟨B, 0, none⟩)]] w (SearchPost (geB s) w) := by
  have hlt : B < w.heap.size := World.block_lt_of_cell? w _ hs
  have HC : Hid (∀ (n : Nat) (W : World), n ≤ 1048576 → Below w.heap.size w W → Calls Tryd.prog 35 (#[.int .i64 n] ++ #[.pointer (some ⟨B, 0, none⟩)]) W fun e w' => e = .returned (.bool (geB s n)) ∧ Below W.heap.size W w') :=
    fun n W hn hb => closure_any B n s W hn ((hb.cell (p := ⟨B, 0, none⟩) hlt).trans hs)
  have eg : ∀ args w, (callFunc 35 args).run Tryd.prog w = .ok (.enter 35 args) w := enters_of Tryd.func35 (by kernel_rfl) rfl
  clear hs
  generalize geB s = p at *
  go_enter Tryd.func34, Tryd.ntmps34
  go_wp2
  go_loopg [5, 6] 1048576 (fun kx s5 s6 wr => ∃ lo hi : Nat, s5 = .int .i64 lo ∧ s6 = .int .i64 hi ∧ lo ≤ hi ∧ hi ≤ 1048576 ∧ hi - lo ≤ kx ∧ Below w.heap.size w wr ∧ Hid (Ends p lo hi))
  case atStart => exact ⟨0, 1048576, rfl, rfl, by omega, by omega, by omega, Below.refl _ _, ⟨.inl rfl, .inl rfl⟩⟩
  case round =>
    obtain ⟨lo, hi, rfl, rfl, hlh, hin, hg, hb, HE⟩ := hrel
    by_cases hlt2 : lo < hi
    · have hc := HC.out ((lo + hi) / 2) wr (by omega) hb
      rw [show (((lo + hi) / 2 : Nat) : Int) = ((lo : Int) + (hi : Int)) / 2 by omega] at hc
      cases hp : p ((lo + hi) / 2) <;> rw [hp] at hc
      · have HP := Lib.hid hp
        have JC := Lib.hid hc
        clear hp hc
        go_wp2_with (go_at_fn 35; refine JC.out.mono ?_; rintro e w1 ⟨rfl, hb1⟩)
        go_roundg (hi - ((lo + hi) / 2 + 1))
        case measure => omega
        case rel => exact ⟨(lo + hi) / 2 + 1, hi, by go_num, rfl, by omega, hin, Nat.le_refl _, bnext hb hb1, ⟨.inr HP.out, HE.out.2⟩⟩
      · have HP := Lib.hid hp
        have JC := Lib.hid hc
        clear hp hc
        go_wp2_with (go_at_fn 35; refine JC.out.mono ?_; rintro e w1 ⟨rfl, hb1⟩)
        go_roundg ((lo + hi) / 2 - lo)
        case measure => omega
        case rel => exact ⟨lo, (lo + hi) / 2, rfl, by go_num, by omega, by omega, Nat.le_refl _, bnext hb hb1, ⟨HE.out.1, .inr HP.out⟩⟩
    · obtain rfl : hi = lo := by omega
      go_wp2
      go_ret
      exact ⟨hi, rfl, ⟨hin, HE.out.1, HE.out.2⟩, hb⟩

theorem found_is {s : ByteArray} {u n : Nat} (hu : u ≤ 1048576) (hs : s.toList = decL u) (h : Found (geB s) n) : n = u := by
  obtain ⟨h1, h2, h3⟩ := h
  have hg : ∀ k, k ≤ 1048576 → geB s k = decide (u ≤ k) := fun k hk => by unfold geB; rw [hs]; exact dec_ge k u hk hu
  rcases h2 with h2 | h2
  · rcases h3 with h3 | h3
    · omega
    · rw [hg n h1] at h3
      have := of_decide_eq_true h3
      omega
  · rw [hg (n - 1) (by omega)] at h2
    have h2' := of_decide_eq_false h2
    rcases h3 with h3 | h3
    · omega
    · rw [hg n h1] at h3
      have := of_decide_eq_true h3
      omega

set_option maxHeartbeats 2000000 in
set_option maxRecDepth 100000 in
theorem read_ok (s : ByteArray) (u : Nat) (w : World) (hu : u ≤ 1048576) (hs : s.toList = decL u) :
    Calls Tryd.prog 25 #[.string s] w fun e w' => e = .returned (.tuple #[.int .i64 u, .nilIface]) ∧ Below w.heap.size w w' := by
  have hmf : ∀ (fn : Fn) (first cap : Array Value) (w : World), (Instr.makeFunc fn first cap).run Tryd.prog w = .ok (.func fn first cap) w := fun _ _ _ _ => rfl
  have hb0 : Below w.heap.size w (w.alloc (.cells #[.string s] 9)) := (Below.refl _ _).alloc (Nat.le_refl _) _
  have hS := search_any w.heap.size s (w.alloc (.cells #[.string s] 9)) (by simp)
  have JS := Lib.hid hS
  have HS := Lib.hid hs
  have hz0 : w.heap.size < (w.alloc (.cells #[.string s] 9)).heap.size := by simp
  clear hS hs
  go_enter Tryd.func25, Tryd.ntmps25
  go_wp2_with fail
  refine JS.out.mono ?_
  rintro e w1 ⟨n, rfl, hF, hb1⟩
  obtain rfl := found_is hu HS.out hF
  have c0 : w1.cell? ⟨w.heap.size, 0, none⟩ = some (.string s) := by rw [hb1.cell (p := ⟨w.heap.size, 0, none⟩) hz0]; simp
  have hB : Below w.heap.size w w1 := bnext hb0 hb1
  clear hF hb1 hb0 JS
  go_wp2_with fail
  go_region_held3 (fun w' => w'.cell? ⟨w.heap.size, 0, none⟩ = some (.string s) ∧ Below w.heap.size w w')
    (first
      | (go_split_ands; exact ⟨(hb.cell (p := ⟨w.heap.size, 0, none⟩) (World.block_lt_of_cell? _ _ (by assumption))).trans (by assumption), bnext (by assumption) hb⟩)
      | exact ⟨c0, Below.drew hB⟩
      | go_keep)
    (first
      | (go_at_call 32; refine (decimal_any n _ hu).mono ?_; rintro e w' ⟨rfl, hb⟩))
  go_wp2
  all_goals first
    | (exfalso; have h : (!decL n == s.toList) = true := by assumption
       simp at h; exact h HS.out.symm)
    | (go_ret2; go_split_ands; exact ⟨rfl, by assumption⟩)

set_option maxHeartbeats 2000000 in
set_option maxRecDepth 100000 in
theorem read_no (s : ByteArray) (w : World) (hs : ∀ u, u ≤ 1048576 → s.toList ≠ decL u) :
    Calls Tryd.prog 25 #[.string s] w fun e w' => e = .returned (.tuple #[.int .i64 0, .iface 57 (.int .i64 4)]) ∧ Below w.heap.size w w' := by
  have hmf : ∀ (fn : Fn) (first cap : Array Value) (w : World), (Instr.makeFunc fn first cap).run Tryd.prog w = .ok (.func fn first cap) w := fun _ _ _ _ => rfl
  have hb0 : Below w.heap.size w (w.alloc (.cells #[.string s] 9)) := (Below.refl _ _).alloc (Nat.le_refl _) _
  have hS := search_any w.heap.size s (w.alloc (.cells #[.string s] 9)) (by simp)
  have JS := Lib.hid hS
  have HS := Lib.hid hs
  have hz0 : w.heap.size < (w.alloc (.cells #[.string s] 9)).heap.size := by simp
  clear hS hs
  go_enter Tryd.func25, Tryd.ntmps25
  go_wp2_with fail
  refine JS.out.mono ?_
  rintro e w1 ⟨n, rfl, hF, hb1⟩
  have hu : n ≤ 1048576 := hF.1
  have c0 : w1.cell? ⟨w.heap.size, 0, none⟩ = some (.string s) := by rw [hb1.cell (p := ⟨w.heap.size, 0, none⟩) hz0]; simp
  have hB : Below w.heap.size w w1 := bnext hb0 hb1
  clear hF hb1 hb0 JS
  go_wp2_with fail
  go_region_held3 (fun w' => w'.cell? ⟨w.heap.size, 0, none⟩ = some (.string s) ∧ Below w.heap.size w w')
    (first
      | (go_split_ands; exact ⟨(hb.cell (p := ⟨w.heap.size, 0, none⟩) (World.block_lt_of_cell? _ _ (by assumption))).trans (by assumption), bnext (by assumption) hb⟩)
      | exact ⟨c0, Below.drew hB⟩
      | go_keep)
    (first
      | (go_at_call 32; refine (decimal_any n _ hu).mono ?_; rintro e w' ⟨rfl, hb⟩))
  go_wp2
  all_goals first
    | (exfalso; have h : (!decL n == s.toList) = false := by assumption
       simp at h; exact HS.out n hu h.symm)
    | (go_ret2; go_split_ands; exact ⟨rfl, by assumption⟩)
end Go.Proofs.YtlhgopdlpjmbhaaDoor
