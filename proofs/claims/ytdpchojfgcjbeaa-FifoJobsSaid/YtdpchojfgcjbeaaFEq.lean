/- The program's equal and refuses for elements of a queue: each defers a call that recovers; nothing panics here; no condition but what the row names. -/
import Derived.Test.YtdpchojfgcjbeaaFRead
import Derived.Defers
import Derived.Recover
import Derived.Laws.Pointers
namespace Go.Proofs.Ytdpchojfgcjbeaa
open Go.RowKit

theorem rec_eq_I (w : World) : CallsD Try.prog 74 #[] .returning w fun e u' w' => e = .returned (.tuple #[]) ∧ u' = .returning ∧ w' = w := by
  refine callsD_of_wpS Try.func74 rfl fun c₀ cs hu => ?_
  apply wpS_region
  simp [wpOpsS, go_sem, recoverD, hu, Try.ntmps74, bodyPostS, results, Try.results74]
  cases c₀
  simp_all
set_option maxHeartbeats 400000 in
theorem equal_I (x y : Int) (w : World) : Calls Try.prog 56 #[(.int .i64 x), (.int .i64 y)] w fun e w' => e = .returned (.bool (x == y)) ∧ w' = w := by
  go_enter_defers Try.func56, Try.ntmps56
  go_wp2
  refine leaves_cons (f := 74) (args := #[]) (by simp) (by simp [go_sem]) ?_
  refine (rec_eq_I _).mono ?_
  rintro e u' w'' ⟨rfl, rfl, rfl⟩
  simp [Leaves, settle, results, Try.results56, go_sem]

theorem rec_ref_I (w : World) : CallsD Try.prog 72 #[] .returning w fun e u' w' => e = .returned (.tuple #[]) ∧ u' = .returning ∧ w' = w := by
  refine callsD_of_wpS Try.func72 rfl fun c₀ cs hu => ?_
  apply wpS_region
  simp [wpOpsS, go_sem, recoverD, hu, Try.ntmps72, bodyPostS, results, Try.results72]
  cases c₀
  simp_all
/-- A bool is answered, whatever became of the world. -/
def GivesB (R : World → Prop) (p : Bool) (e : Ending) (w' : World) : Prop := e = .returned (.bool p) ∧ R w'
set_option maxHeartbeats 400000 in
theorem refuses_I (g : Nat) (lb : Array Value) (x : Int) (w : World) (R : World → Prop) (p : Bool) (eg : ∀ args w, (callFunc g args).run Try.prog w = .ok (.enter g args) w) (h : Calls Try.prog g (#[(.int .i64 x)] ++ lb) w (GivesB R p)) :
    Calls Try.prog 53 #[.func (.func g) #[] lb, (.int .i64 x)] w (GivesB R (!p)) := by
  have H := Lib.hid h
  clear h
  go_enter_defers Try.func53, Try.ntmps53
  go_wp2_with fail
  refine H.out.mono ?_
  rintro e w1 ⟨rfl, hr⟩
  have hnot : ∀ (x : Bool) (w : World), (Op.unary .not (.bool x)).run Try.prog w = .ok (.bool (!x)) w := fun _ _ => rfl
  have HR := Lib.hid hr
  clear hr
  go_wp2_with fail
  refine leaves_cons (f := 72) (args := #[]) (by simp) (by simp [go_sem]) ?_
  refine (rec_ref_I _).mono ?_
  rintro e u' w'' ⟨rfl, rfl, rfl⟩
  simp [Leaves, settle, results, Try.results53, go_sem, GivesB]
  exact HR.out
end Go.Proofs.Ytdpchojfgcjbeaa
