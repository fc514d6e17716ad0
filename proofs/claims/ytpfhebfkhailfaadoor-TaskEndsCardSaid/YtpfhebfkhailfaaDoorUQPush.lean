/- The program's New, enter and Push of a queue of jobs; no condition but those that each row names. -/
import Derived.Test.YtpfhebfkhailfaaDoorUQRead
import Derived.Deep.RegionLaw
import Derived.Deep.DeepCutAuto
namespace Go.Proofs.YtpfhebfkhailfaaDoor
open Go.RowKit Tsk

set_option maxHeartbeats 400000 in
theorem new_no_J (w : World) (limit : Int) (h : limit < 1 ∨ 4096 < limit) :
    Calls Tryd.prog 53 #[.int .i64 limit] w fun e w' => e = .returned (.tuple #[.pointer none, errV 1]) ∧ w = w' := by
  by_cases h0 : limit < 1
  · clear h
    go_enter Tryd.func53, Tryd.ntmps53
    go_wp2
    go_ret2
    exact ⟨rfl, rfl⟩
  · have h1 : 4096 < limit := by omega
    have h0' : decide (limit < 1) = false := by simpa using h0
    clear h
    go_enter Tryd.func53, Tryd.ntmps53
    go_wp2
    go_ret2
    exact ⟨rfl, rfl⟩
set_option maxHeartbeats 400000 in
theorem new_yes_J (w : World) (limit : Int) (h0 : 1 ≤ limit) (h1 : limit ≤ 4096) :
    Calls Tryd.prog 53 #[.int .i64 limit] w fun e w' => e = .returned (.tuple #[.pointer (some ⟨w.heap.size, 0, none⟩), .nilIface]) ∧ w' = w.alloc (.cells #[.int .i64 limit, .slice none 0 0, .int .i64 0] QT_J) := by
  have h0' : ¬ limit < 1 := by omega
  have h1' : ¬ 4096 < limit := by omega
  go_enter Tryd.func53, Tryd.ntmps53
  go_wp2
  go_ret2
  exact ⟨rfl, rfl⟩

set_option maxHeartbeats 400000 in
theorem enter_J (B : Nat) (A : Qu) (hA : A.Good 4) (w : World) (b : Nat) (s : Value) (h : PQ QT_J ET_J 4 B w A b s) (x : Jb) (hl : A.last + 1 ≤ 9223372036854775807) :
    Calls Tryd.prog 55 #[.pointer (some ⟨b, 0, none⟩), (.agg #[.int .i64 x.l, .int .i64 x.c, .int .i64 x.a, .int .i64 x.d])] w fun e w' => e = .returned (.agg #[.int .i64 x.l, .int .i64 x.c, .int .i64 x.a, .int .i64 x.d, .int .i64 (A.last + 1)]) ∧ PQ QT_J ET_J 4 B w' A.next b s ∧ Keeps (fun x => x = b) w w' := by
  have HP := Lib.hid h
  have f2 := h.f2
  have fz := h.fz 2
  have lt := h.lt
  have z0 := hA.z0
  clear h hA
  go_enter Tryd.func55, Tryd.ntmps55
  go_wp2_with fail
  go_region
  all_goals
    go_wp2_with fail
    refine bodyPost_ret (v := .agg #[.int .i64 x.l, .int .i64 x.c, .int .i64 x.a, .int .i64 x.d, .int .i64 (A.last + 1)]) (by simp [results, Tryd.results55, go_sem]) rfl ⟨rfl, ?_, ?_⟩
    · exact ((HP.out.next.alloc _).alloc _).drew
    · exact ((((Keeps.refl (fun x => x = b) w).setCell ⟨b, 2, none⟩ _ (.inl rfl)).alloc _).alloc _).drew

def PushPost_J (B : Nat) (w : World) (A : Qu) (b : Nat) (s : Value) (n : Int) (e : Ending) (w' : World) : Prop :=
  e = .returned (errV n) ∧ ∃ s', PQ QT_J ET_J 4 B w' A b s' ∧ Keeps (fun x => x = b ∨ s.ownBlock = some x) w w' ∧ ∀ g, s'.ownBlock = some g → s.ownBlock = some g ∨ w.heap.size ≤ g

set_option maxHeartbeats 1000000 in
set_option maxRecDepth 100000 in
theorem push_yes_J (B : Nat) (A : Qu) (hA : A.Good 4) (w : World) (b : Nat) (s : Value) (h : PQ QT_J ET_J 4 B w A b s) (x : Jb) (hl : A.last + 1 ≤ 9223372036854775807) (hr : A.l.length < A.limit) (hB : B ≤ w.heap.size) :
    Calls Tryd.prog 48 #[.pointer (some ⟨b, 0, none⟩), (.agg #[.int .i64 x.l, .int .i64 x.c, .int .i64 x.a, .int .i64 x.d])] w (PushPost_J B w (A.push (.agg #[.int .i64 x.l, .int .i64 x.c, .int .i64 x.a, .int .i64 x.d])) b s 0) := by
  obtain ⟨i0, hi, hz0, hz1, hz2⟩ := info_parts Tryd.inf84
  have HP := Lib.hid (h.alloc (.cells #[.int .i64 x.l, .int .i64 x.c, .int .i64 x.a, .int .i64 x.d] 42))
  have HK0 := Lib.hid ((Keeps.refl (fun x => x = b) w).alloc (.cells #[.int .i64 x.l, .int .i64 x.c, .int .i64 x.a, .int .i64 x.d] 42))
  have HA := Lib.hid hA
  have HR := Lib.hid (room_J 4 B A hA (w.alloc (.cells #[.int .i64 x.l, .int .i64 x.c, .int .i64 x.a, .int .i64 x.d] 42)) b s (h.alloc _))
  have HE := fun w b s h => Lib.hid (enter_J B A hA w b s h x hl)
  have f1 := h.f1
  have hlt := h.lt
  have z0 : (A.limit - A.l.length == 0) = false := by simp; omega
  have n4 := hA.n4
  clear h hA hr hl
  go_enter Tryd.func48, Tryd.ntmps48
  go_wp2_with fail
  refine HR.out.mono ?_
  rintro e w1 ⟨rfl, rfl⟩
  go_wp2_with fail
  go_upto_region 3 with fail
  go_cut [] (fun wx => Hid (PushPost_J B w (A.push (.agg #[.int .i64 x.l, .int .i64 x.c, .int .i64 x.a, .int .i64 x.d])) b s 0 (.returned .nilIface) wx))
  case first =>
    go_region_law (first
      | (go_simp; go_at_call 55; refine (HE _ b s HP.out.drew).out.mono ?_; rintro e w2 ⟨rfl, h1, hk⟩; have f1' := h1.f1; have lt2 := h1.lt; have hsz2 : w.heap.size + 1 ≤ w2.heap.size := (by have := hk.size; simp at this; omega))
      | (refine step_append_lies _ rfl _ _ 80 rfl B 84 i0 (.agg #[.int .i64 0, .int .i64 0, .int .i64 0, .int .i64 0, .int .i64 0]) 5 40 Tryd.underlying80 hi hz0 hz1 hz2 rfl (by decide) s A.l.length (flat A.l) rfl (h1.own.alloc _) ⟨w2.heap.size, 0, none⟩ 1 1 [.int .i64 x.l, .int .i64 x.c, .int .i64 x.a, .int .i64 x.d, .int .i64 (A.last + 1)] rfl rfl (World.news_of_block (heap_alloc_new _ _)) (by simp [Value.oneCell']) (by decide) (by unfold maxLen; omega) (by omega) (by have := hk.size; simp at this ⊢; omega) _ rfl ?_; intro g cap w3 hown hgrow hat hlt; obtain ⟨c3, z3⟩ := h1.grown1 hgrow))
    all_goals go_wp2_with fail
    all_goals
      go_meet
      have hok := PQ.pushed (k := 4) (v := (.agg #[.int .i64 x.l, .int .i64 x.c, .int .i64 x.a, .int .i64 x.d])) h1 hgrow (by simpa [cellsOf] using hown) hat
      refine Lib.hid ⟨rfl, _, hok, ?_, ?_⟩
      · exact (((((HK0.out.drew).trans hk).mono (fun _ => .inl)).alloc _).grown hgrow (fun k e => .inl (.inr e))).setCell _ _ (.inl (.inl rfl))
      · intro g' e
        simp [Value.ownBlock] at e
        subst e
        rcases hat with e | e
        · exact .inl e
        · have := hk.size; simp at e this; right; omega
  case rest =>
    go_wp2_with fail
    go_ret
    exact hcut.out

set_option maxHeartbeats 400000 in
theorem push_no_J (k B : Nat) (A : Qu) (hA : A.Good k) (w : World) (b : Nat) (s : Value) (h : PQ QT_J ET_J k B w A b s) (x : Jb) (hr : A.limit ≤ A.l.length) :
    Calls Tryd.prog 48 #[.pointer (some ⟨b, 0, none⟩), (.agg #[.int .i64 x.l, .int .i64 x.c, .int .i64 x.a, .int .i64 x.d])] w fun e w' => e = .returned (errV 40) ∧ Below w.heap.size w w' := by
  have HR := Lib.hid (room_J k B A hA (w.alloc (.cells #[.int .i64 x.l, .int .i64 x.c, .int .i64 x.a, .int .i64 x.d] 42)) b s (h.alloc _))
  have z0 : (A.limit - A.l.length == 0) = true := by have := hA.len; simp; omega
  clear h hA hr
  go_enter Tryd.func48, Tryd.ntmps48
  go_wp2_with fail
  refine HR.out.mono ?_
  rintro e w1 ⟨rfl, rfl⟩
  go_wp2_with fail
  go_ret
  exact ⟨rfl, (Below.refl _ w).alloc (Nat.le_refl _) _⟩
theorem good_push_J {A : Qu} (h : A.Good 4) (x : Jb) (hr : A.l.length < A.limit) : (A.push (.agg #[.int .i64 x.l, .int .i64 x.c, .int .i64 x.a, .int .i64 x.d])).Good 4 := by
  refine ⟨h.l0, h.l1, ?_, ?_, ?_, ?_, ?_⟩
  · simp [Qu.push]; omega
  · intro p hp
    simp only [Qu.push, List.mem_append, List.mem_singleton] at hp
    rcases hp with hp | rfl
    · exact h.wd p hp
    · exact ⟨rfl, fun u hu => by simp [cellsOf] at hu; rcases hu with rfl | rfl | rfl | rfl <;> rfl⟩
  · have := h.z0; simp [Qu.push]; omega
  · intro p hp
    have := h.z0
    simp only [Qu.push, List.mem_append, List.mem_singleton] at hp ⊢
    rcases hp with hp | rfl
    · have := h.nums p hp; omega
    · simp; omega
  · simp only [Qu.push, List.map_append, List.map_cons, List.map_nil]
    refine List.nodup_append.2 ⟨h.nd, by simp, ?_⟩
    intro a ha c hc
    simp at hc
    subst hc
    obtain ⟨p, hp, rfl⟩ := List.mem_map.1 ha
    have := h.nums p hp
    omega
end Go.Proofs.YtpfhebfkhailfaaDoor
