/- The program's equal and refuses for elements of a queue of jobs: each defers a call that recovers; nothing panics here; no condition but what the row names. -/
import Derived.Test.YtdpchojfgcjbeaaFReadJ
import Derived.Defers
import Derived.Recover
import Derived.Laws.Pointers
namespace Go.Proofs.Ytdpchojfgcjbeaa
open Go.RowKit

theorem rec_eq_J (w : World) : CallsD Try.prog 79 #[] .returning w fun e u' w' => e = .returned (.tuple #[]) ∧ u' = .returning ∧ w' = w := by
  refine callsD_of_wpS Try.func79 rfl fun c₀ cs hu => ?_
  apply wpS_region
  simp [wpOpsS, go_sem, recoverD, hu, Try.ntmps79, bodyPostS, results, Try.results79]
  cases c₀
  simp_all
set_option maxHeartbeats 400000 in
theorem equal_J (x : Jb) (w : World) : Calls Try.prog 67 #[(.agg #[.int .i64 x.a, .int .i64 x.b, .int .i64 x.c, .int .i64 x.d]), (.agg #[.int .i64 x.a, .int .i64 x.b, .int .i64 x.c, .int .i64 x.d])] w fun e w' => e = .returned (.bool true) ∧ Below w.heap.size w w' := by
  go_enter_defers Try.func67, Try.ntmps67
  go_wp2
  refine leaves_cons (f := 79) (args := #[]) (by simp) (by simp [go_sem]) ?_
  refine (rec_eq_J _).mono ?_
  rintro e u' w'' ⟨rfl, rfl, rfl⟩
  simp [Leaves, settle, results, Try.results67, go_sem]
  exact ((Below.refl _ w).alloc (Nat.le_refl _) _).alloc (by simp) _

theorem rec_ref_J (w : World) : CallsD Try.prog 75 #[] .returning w fun e u' w' => e = .returned (.tuple #[]) ∧ u' = .returning ∧ w' = w := by
  refine callsD_of_wpS Try.func75 rfl fun c₀ cs hu => ?_
  apply wpS_region
  simp [wpOpsS, go_sem, recoverD, hu, Try.ntmps75, bodyPostS, results, Try.results75]
  cases c₀
  simp_all
/-- A bool is answered, whatever became of the world. -/
def GivesBJ (R : World → Prop) (p : Bool) (e : Ending) (w' : World) : Prop := e = .returned (.bool p) ∧ R w'
set_option maxHeartbeats 400000 in
theorem refuses_J (g : Nat) (lb : Array Value) (x : Jb) (w : World) (R : World → Prop) (p : Bool) (eg : ∀ args w, (callFunc g args).run Try.prog w = .ok (.enter g args) w) (h : Calls Try.prog g (#[(.agg #[.int .i64 x.a, .int .i64 x.b, .int .i64 x.c, .int .i64 x.d])] ++ lb) (w.alloc (.cells #[.int .i64 x.a, .int .i64 x.b, .int .i64 x.c, .int .i64 x.d] 72)) (GivesBJ R p)) :
    Calls Try.prog 60 #[.func (.func g) #[] lb, (.agg #[.int .i64 x.a, .int .i64 x.b, .int .i64 x.c, .int .i64 x.d])] w (GivesBJ R (!p)) := by
  have H := Lib.hid h
  clear h
  go_enter_defers Try.func60, Try.ntmps60
  go_wp2_with fail
  refine H.out.mono ?_
  rintro e w1 ⟨rfl, hr⟩
  have hnot : ∀ (x : Bool) (w : World), (Op.unary .not (.bool x)).run Try.prog w = .ok (.bool (!x)) w := fun _ _ => rfl
  have HR := Lib.hid hr
  clear hr
  go_wp2_with fail
  refine leaves_cons (f := 75) (args := #[]) (by simp) (by simp [go_sem]) ?_
  refine (rec_ref_J _).mono ?_
  rintro e u' w'' ⟨rfl, rfl, rfl⟩
  simp [Leaves, settle, results, Try.results60, go_sem, GivesBJ]
  exact HR.out
end Go.Proofs.Ytdpchojfgcjbeaa
