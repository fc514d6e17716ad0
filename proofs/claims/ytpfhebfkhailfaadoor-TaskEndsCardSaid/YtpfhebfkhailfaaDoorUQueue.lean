/- The program's task: jobs as a queue; no condition but those that each row names. -/
import Derived.Test.YtpfhebfkhailfaaDoorUQJ
import Derived.Test.YtpfhebfkhailfaaDoorUValid
namespace Go.Proofs.YtpfhebfkhailfaaDoor
open Go.RowKit Go.Shelf Tsk

theorem upd_id (f : Nat → Jb) (i : Nat) : upd f i (f i) = f := by
  funext j
  by_cases e : j = i
  · rw [e, upd_same]
  · rw [upd_ne _ e]
set_option maxHeartbeats 1000000 in
theorem pqueue (s : Value) (n : Nat) (f : Nat → Jb) (w : World) (h : Jobs w s n f) (hn8 : n ≤ 8) : Calls Tryd.prog 47 #[s] w fun e w' => ∃ b s', e = .returned (.pointer (some ⟨b, 0, none⟩)) ∧ QJ w b s' n f n w' := by
  have HJ := Lib.hid h
  obtain ⟨q, cap, rfl, hn, _⟩ := h
  go_enter Tryd.func47, Tryd.ntmps47
  go_wp2_with fail
  refine (qnew w).mono ?_
  rintro e w2 ⟨rfl, hq⟩
  have HQ := Lib.hid (hq.congr (g := f) (fun i hi => by omega))
  clear hq
  go_wp2_with fail
  go_loopw [13] (fun iv wr => ∃ i : Nat, iv = .int .i64 i ∧ i ≤ n ∧ ∃ s', Hid (QJ w w.heap.size s' i f i wr)) (fun iv _ => n - (intOf iv).toNat)
  case atStart => exact ⟨0, rfl, Nat.zero_le _, _, HQ⟩
  case round =>
    obtain ⟨i, rfl, hi, s', HQr⟩ := hrel
    by_cases hin : i < n
    · have hin' : (i : Int) < (n : Int) := by omega
      obtain ⟨q', cap', e, _, hcl⟩ := HJ.out.below HQr.out.below
      cases e
      obtain ⟨b, off, rfl, d0, d1, d2, d3⟩ := hcl i hin
      clear hcl
      have HP := Lib.hid (fun w3 (hb : Below wr.heap.size wr w3) => (qpush w w3 w.heap.size i s' f i (HQr.out.turn hb) (f i) (by omega) (by omega)).mono (R' := fun e w' => e = .returned .nilIface ∧ ∃ s'', QJ w w.heap.size s'' (i + 1) f ((i : Int) + 1) w') (fun e w' ⟨he, s'', hq⟩ => ⟨he, s'', hq.congr fun j _ => by rw [upd_id]⟩))
      generalize f i = jb at *
      obtain ⟨jl, jc, ja, jd⟩ := jb
      have HBa := Lib.hid ((Below.refl wr.heap.size wr).alloc (Nat.le_refl _) (.cells #[.int .i64 jl, .int .i64 jc, .int .i64 ja, .int .i64 jd] JT))
      go_wp2_with fail
      refine (HP.out _ HBa.out).mono ?_
      rintro e w3 ⟨rfl, s'', hq⟩
      have HQ3 := Lib.hid hq
      clear hq
      go_wp2_with fail
      go_roundw
      case rel => exact ⟨i + 1, by go_num, by omega, s'', HQ3⟩
      case measure => simp [intOf]; omega
    · have hg3 : decide (i < n) = false := decide_eq_false hin
      obtain rfl : i = n := by omega
      clear hin
      go_wp2_with fail
      go_ret
      exact ⟨_, _, rfl, HQr.out⟩
end Go.Proofs.YtpfhebfkhailfaaDoor
