/- The head of the laws, works: an overload wrapped twice; no condition but what the rows' listed variables hold. -/
import Derived.Test.YtlnamkplbikcjaaGreatDoorYChain
import Derived.Test.YtlnamkplbikcjaaGreatDoorYIs
namespace Go.Proofs.YtlnamkplbikcjaaGreatDoor
open Go.RowKit Ft

/-- The head's error. -/
def e0 : Er := .place 3 (.fault 1 1099511627777 (.num 80))
theorem e0_ok : e0.ok := by unfold e0 Er.ok Er.ok Er.ok I64; decide
theorem e0_txt : e0.txt false = [108, 105, 110, 101, 32, 51, 58, 32, 99, 114, 101, 97, 116, 101, 32, 110, 48, 46, 49, 58, 32, 101, 114, 114, 111, 114, 32, 56, 48] := by decide +kernel
theorem e0_say : e0.txt true = [108, 105, 110, 101, 32, 51, 58, 32, 99, 114, 101, 97, 116, 101, 32, 110, 48, 46, 49, 58, 32, 111, 118, 101, 114, 108, 111, 97, 100] := by decide +kernel
theorem e0_chain : (e0.chain 64).length = 3 := rfl
set_option maxHeartbeats 2000000 in
set_option maxRecDepth 100000 in
theorem works_any (w : World) (hg : LaidAt w) : Calls Tryz.prog 6 #[] w fun r w' => r = .returned (.bool true) ∧ Below w.heap.size w w' := by
  have HW := Lib.hid (wrap_any 1 1099511627777 (.num 80) (by intro h; cases h) w.heap.size (.iface 39 (.int .i64 80)) w (Nat.le_refl _) rfl)
  have HG := Lib.hid hg
  clear hg
  go_enter Tryz.func6, Tryz.ntmps6
  go_wp2_with fail
  refine HW.out.mono ?_
  rintro r w1 ⟨u1, rfl, hu1, hb1, hlt1⟩
  have HL := Lib.hid (line_any 3 (.fault 1 1099511627777 (.num 80)) (by intro h; cases h) (w.heap.size + 1) u1 w1 (by omega) hu1)
  have HB1 := Lib.hid hb1
  clear hu1 hb1
  go_wp2_with fail
  refine HL.out.mono ?_
  rintro r w2 ⟨u, rfl, hu, hb2, hlt2⟩
  have hb := bnext HB1.out hb2
  have hu2 : EV w2.heap.size w2 e0 u := hu.up (by omega)
  obtain ⟨ti, pi, rfl⟩ := hu2.iface (by intro h; cases h)
  have hG2 := HG.out.below hb
  have F1 := Lib.hid (fun W (hW : Below w2.heap.size w2 W) => LineOf_any e0 w2.heap.size _ W hW.size (hG2.below hW) (hu2.keep hW))
  have F2 := Lib.hid (fun W (hW : Below w2.heap.size w2 W) => Where_any e0 w2.heap.size _ W hW.size (hG2.below hW) (hu2.keep hW))
  have F3 := Lib.hid (fun W (hW : Below w2.heap.size w2 W) => tells_any e0 e0_ok _ W (hG2.below hW) (hu2.below hW) (by rw [e0_txt]; decide))
  have F4 := Lib.hid (fun W (hW : Below w2.heap.size w2 W) => why_any e0 w2.heap.size _ W hW.size (hG2.below hW) (hu2.keep hW))
  have F5 := Lib.hid (fun W (hW : Below w2.heap.size w2 W) => say_any e0 e0_ok _ W (hG2.below hW) (hu2.below hW) (by rw [e0_say]; decide))
  have F6 := Lib.hid (fun W (hW : Below w2.heap.size w2 W) => chain_any e0 e0_ok w2.heap.size _ W hW.size (hG2.below hW) (hu2.keep hW) (by rw [e0_txt]; decide))
  have F7 := Lib.hid (fun n W (hW : Below w2.heap.size w2 W) => Is_all n e0 w2.heap.size _ W hW.size (hu2.keep hW))
  rw [e0_txt] at F3
  rw [e0_say] at F5
  have HB := Lib.hid hb
  clear hu hu2 hG2 hb hb2
  go_wp2_with fail
  refine (F1.out _ (Below.refl _ _)).mono ?_
  rintro r w3 ⟨rfl, hb3⟩
  have k3 := Lib.hid hb3
  clear hb3
  go_wp2_with fail
  refine (F2.out _ k3.out).mono ?_
  rintro r w4 ⟨rfl, hb4⟩
  have k4 := Lib.hid (bnext k3.out hb4)
  clear hb4
  go_wp2_with fail
  refine (F3.out _ k4.out).mono ?_
  rintro r w5 ⟨rfl, hb5⟩
  have k5 := Lib.hid (bnext k4.out hb5)
  clear hb5
  go_wp2_with fail
  refine (F4.out _ k5.out).mono ?_
  rintro r w6 ⟨rfl, hb6⟩
  have k6 := Lib.hid (bnext k5.out hb6)
  clear hb6
  have hwhy : (e0.why == 80) = true := rfl
  go_wp2_with fail
  refine (F5.out _ k6.out).mono ?_
  rintro r w7 ⟨rfl, hb7⟩
  have k7 := Lib.hid (bnext k6.out hb7)
  clear hb7
  go_wp2_with fail
  refine (F6.out _ k7.out).mono ?_
  rintro r w8 ⟨p8, c8, rfl, -, hb8⟩
  have k8 := Lib.hid (bnext k7.out hb8)
  rw [e0_chain]
  clear hb8
  go_wp2_with fail
  refine (F7.out 80 _ k8.out).mono ?_
  rintro r w9 ⟨rfl, hb9⟩
  have k9 := Lib.hid (bnext k8.out hb9)
  rw [show e0.has 80 = true from rfl]
  clear hb9
  go_wp2_with fail
  refine (F7.out 2 _ k9.out).mono ?_
  rintro r wa ⟨rfl, hba⟩
  have ka := Lib.hid (bnext k9.out hba)
  rw [show e0.has 2 = false from rfl]
  clear hba
  go_wp2_with fail
  refine (wrap_nil 1 0 _).mono ?_
  rintro r wb ⟨rfl, rfl⟩
  go_wp2_with fail
  go_ret
  exact ⟨rfl, bnext HB.out ka.out⟩
end Go.Proofs.YtlnamkplbikcjaaGreatDoor
