/- The calls of the law's own works, each at its own numbers; no condition but those that each row names. -/
import Derived.Test.YtpfhebfkhailfaaDoorURun
import Derived.Test.YtpfhebfkhailfaaDoorUShow
import Derived.Test.YtpfhebfkhailfaaDoorQLawA
namespace Go.Proofs.YtpfhebfkhailfaaDoor
open Go.RowKit Go.Shelf Tsk

abbrev jA : Jb := ⟨2, 0, 10, 5⟩
abbrev jB : Jb := ⟨1, 0, 10, 5⟩
abbrev jD : Jb := ⟨3, 1, 0, 0⟩
abbrev kB : Ac := ⟨1, 1, 0, 0, 0, 0⟩
abbrev kC : Ac := ⟨2, 2, 0, 1, 0, 1⟩
abbrev kD : Ac := ⟨1, 1, 0, 0, 1, 0⟩
theorem okT_one {j : Jb} {k : Ac} (hj : okJ j) (hk : okA k) : okT 3 1 (fun _ => j) k := ⟨by omega, by omega, fun _ _ => hj, hk⟩
theorem jobs0 (w : World) (f : Nat → Jb) : Jobs w (.slice none 0 0) 0 f := ⟨none, 0, rfl, by omega, fun j hj => by omega⟩
theorem works_push (j : Jb) (now : Int) (w : World) (hn : 0 ≤ now ∧ now ≤ 1073741824) (hj : okJ ⟨j.l, j.c, now, j.d⟩) :
    Calls Tryd.prog 22 #[tV 3 (.slice none 0 0) kZ, jV j, .int .i64 now] w fun e w' => ∃ s c, e = .returned (.tuple #[tV 3 (.slice s 1 c) kZ, .nilIface]) ∧ Jobs w' (.slice s 1 c) 1 (fun _ => ⟨j.l, j.c, now, j.d⟩) ∧ Below w.heap.size w w' := by
  refine (ppush_ok 3 (.slice none 0 0) 0 (fun _ => ⟨0, 0, 0, 0⟩) kZ j now w (jobs0 w _) ⟨by omega, by omega, fun i hi => by omega, by decide⟩ hn hj (by omega)).mono ?_
  rintro e w' ⟨x, he, s, c, hx, ho, hb⟩
  refine ⟨s, c, by rw [he, hx]; rfl, (own_jobs ho (by omega)).congr (fun i hi => ?_), hb⟩
  obtain rfl : i = 0 := by omega
  rfl
theorem works_run (j : Jb) (k : Ac) (now : Int) (s : Option Addr) (c : Nat) (w : World) (h : Jobs w (.slice s 1 c) 1 (fun _ => j)) (hj : okJ j) (hk : okA k) (hn : 0 ≤ now ∧ now < 1073741824) (hg : k.g < 1073741824) :
    Calls Tryd.prog 24 #[tV 3 (.slice s 1 c) k, .int .i64 now] w fun e w' => ∃ s' c', e = .returned (.tuple #[tV 3 (.slice s' (runN 1 j) c') (runK k j now), .int .i64 (runW j), .int .i64 (runL j now), .nilIface]) ∧ Jobs w' (.slice s' (runN 1 j) c') (runN 1 j) (runF (fun _ => j)) ∧ Below w.heap.size w w' := by
  refine (prun_ok 3 _ 1 (fun _ => j) k now w h (okT_one hj hk) hn (by omega) hg).mono ?_
  rintro e w' ⟨x, he, s', c', hx, ho, hb⟩
  exact ⟨s', c', by rw [he, hx]; rfl, own_jobs ho (by unfold runN; split <;> omega), hb⟩
theorem works_r1 (s : Option Addr) (c : Nat) (w : World) (h : Jobs w (.slice s 1 c) 1 (fun _ => jA)) :
    Calls Tryd.prog 24 #[tV 3 (.slice s 1 c) kZ, .int .i64 10] w fun e w' => ∃ s' c', e = .returned (.tuple #[tV 3 (.slice s' 1 c') kB, .int .i64 0, .int .i64 0, .nilIface]) ∧ Jobs w' (.slice s' 1 c') 1 (fun _ => jB) ∧ Below w.heap.size w w' := by
  refine (works_run jA kZ 10 s c w h (by decide) (by decide) (by omega) (by decide)).mono ?_
  rintro e w' ⟨s', c', he, ho, hb⟩
  refine ⟨s', c', he, Jobs.congr ho (fun i hi => ?_), hb⟩
  have hi' : i < 1 := hi
  obtain rfl : i = 0 := by omega
  rfl
theorem works_r2 (s : Option Addr) (c : Nat) (w : World) (h : Jobs w (.slice s 1 c) 1 (fun _ => jB)) :
    Calls Tryd.prog 24 #[tV 3 (.slice s 1 c) kB, .int .i64 20] w fun e w' => ∃ s' c', e = .returned (.tuple #[tV 3 (.slice s' 0 c') kC, .int .i64 1, .int .i64 6, .nilIface]) ∧ Below w.heap.size w w' := by
  refine (works_run jB kB 20 s c w h (by decide) (by decide) (by omega) (by decide)).mono ?_
  rintro e w' ⟨s', c', he, ho, hb⟩
  exact ⟨s', c', he, hb⟩
theorem works_r3 (s : Option Addr) (c : Nat) (w : World) (h : Jobs w (.slice s 1 c) 1 (fun _ => jD)) :
    Calls Tryd.prog 24 #[tV 3 (.slice s 1 c) kZ, .int .i64 0] w fun e w' => ∃ s' c', e = .returned (.tuple #[tV 3 (.slice s' 0 c') kD, .int .i64 2, .int .i64 0, .nilIface]) ∧ Below w.heap.size w w' := by
  refine (works_run jD kZ 0 s c w h (by decide) (by decide) (by omega) (by decide)).mono ?_
  rintro e w' ⟨s', c', he, ho, hb⟩
  exact ⟨s', c', he, hb⟩
/-- What is told of the task without jobs. -/
abbrev textT : ByteArray := ⟨#[112, 114, 105, 111, 32, 51, 32, 103, 105, 118, 101, 110, 32, 48, 32, 100, 111, 110, 101, 32, 48, 32, 99, 117, 116, 32, 48, 32, 108, 97, 116, 101, 32, 48]⟩
theorem works_show (w : World) (hg : LaidAt w) : Calls Tryd.prog 16 #[tV 3 (.slice none 0 0) kZ] w fun e w' => e = .returned (.string textT) ∧ Below w.heap.size w w' := by
  refine (pshow_ok 3 (.slice none 0 0) 0 (fun _ => ⟨0, 0, 0, 0⟩) kZ w (jobs0 w _) ⟨by omega, by omega, fun i hi => by omega, by decide⟩ hg).mono ?_
  rintro e w' ⟨he, hb⟩
  refine ⟨?_, hb⟩
  rw [he, show textS 3 kZ (fun _ => ⟨0, 0, 0, 0⟩) 0 = headL 3 kZ from rfl]
  unfold headL
  have d3 : dgL 3 = [51] := by unfold dgL; rw [dec_small (by decide)]; rfl
  have d0 : dgL 0 = [48] := by unfold dgL; rw [dec_small (by decide)]; rfl
  simp only [d3, d0]
  rfl
end Go.Proofs.YtpfhebfkhailfaaDoor
