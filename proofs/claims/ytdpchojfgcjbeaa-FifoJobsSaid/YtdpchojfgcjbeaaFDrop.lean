/- The program's Drop and Pop of a queue; no condition but those that each row names. -/
import Derived.Test.YtdpchojfgcjbeaaFPush
import Derived.Test.YtdpchojfgcjbeaaFDelete
namespace Go.Proofs.Ytdpchojfgcjbeaa
open Go.RowKit

def DropPost_I (B : Nat) (w : World) (A : Qu) (b : Nat) (s : Value) (v : Value) (e : Ending) (w' : World) : Prop :=
  e = .returned v ∧ ∃ s', PQ QT_I ET_I 1 B w' A b s' ∧ Keeps (fun x => x = b ∨ s.ownBlock = some x) w w' ∧ s'.ownBlock = s.ownBlock

set_option maxHeartbeats 1000000 in
set_option maxRecDepth 100000 in
theorem drop_yes_I (B : Nat) (A : Qu) (hA : A.Good 1) (w : World) (b : Nat) (s : Value) (h : PQ QT_I ET_I 1 B w A b s) (i : Nat) (hi : i < A.l.length) (x : Int) (hv : A.l[i].1 = (.int .i64 x)) :
    Calls Try.prog 17 #[.pointer (some ⟨b, 0, none⟩), .int .i64 i] w (DropPost_I B w (A.drop i) b s (.tuple #[(.int .i64 x), .nilIface])) := by
  have HT := Lib.hid (at_yes_I B A hA w b s h i hi x hv)
  have n4 := hA.n4
  obtain ⟨g, cap, hs, hBg, hglt, hgb⟩ := h.form (by omega)
  have HD := Lib.hid (delete_I w B g cap A.l.length i (i + 1) rfl A.l hA.wd rfl hi n4 (hs ▸ h.own))
  have HP := Lib.hid h
  have f1 := h.f1
  have hlt := h.lt
  rw [hs] at f1
  have HS := Lib.hid hs
  clear h hA hv hs
  go_enter Try.func17, Try.ntmps17
  go_wp2_with fail
  refine HT.out.mono ?_
  rintro e w1 ⟨rfl, rfl⟩
  go_wp2_with fail
  refine HD.out.mono ?_
  rintro e w1 ⟨rfl, hown, hk⟩
  have hk' : Keeps (fun x => s.ownBlock = some x) w w1 := hk.mono (fun x e => by subst e; rw [HS.out]; rfl)
  obtain ⟨c1, z1⟩ := HP.out.relaid_cell hk'
  have hel : (A.l.eraseIdx i).length = A.l.length - 1 := by rw [List.length_eraseIdx, if_pos hi]
  have hq := HP.out.relaid (l' := A.l.eraseIdx i) (s' := .slice (some ⟨g, 0, none⟩) (A.l.length - 1) cap) hk' (by rw [hel]; exact hown) (by rw [HS.out]; rfl)
  have HQ := Lib.hid hq
  have HK := Lib.hid hk'
  clear hq hk hk' hel hown
  go_wp2_with fail
  go_ret2
  exact ⟨rfl, _, HQ.out, (HK.out.mono (fun _ => .inr)).setCell _ _ (.inl (.inl rfl)), by rw [HS.out]; rfl⟩
set_option maxHeartbeats 400000 in
theorem drop_no_I (k B : Nat) (A : Qu) (w : World) (b : Nat) (s : Value) (h : PQ QT_I ET_I k B w A b s) (i : Int) (hi : hasB A i = false) :
    Calls Try.prog 17 #[.pointer (some ⟨b, 0, none⟩), .int .i64 i] w fun e w' => e = .returned (.tuple #[zero_I, errV 50]) ∧ w = w' := by
  have HT := Lib.hid (at_no_I k B A w b s h i hi)
  clear h hi
  go_enter Try.func17, Try.ntmps17
  go_wp2_with fail
  refine HT.out.mono ?_
  rintro e w1 ⟨rfl, rfl⟩
  go_wp2_with fail
  go_ret2
  exact ⟨rfl, rfl⟩
set_option maxHeartbeats 400000 in
theorem drop_nil_I (w : World) (i : Int) :
    Calls Try.prog 17 #[.pointer none, .int .i64 i] w fun e w' => e = .returned (.tuple #[zero_I, errV 50]) ∧ w = w' := by
  go_enter Try.func17, Try.ntmps17
  go_wp2_with fail
  refine (at_nil_I w i).mono ?_
  rintro e w1 ⟨rfl, rfl⟩
  go_wp2_with fail
  go_ret2
  exact ⟨rfl, rfl⟩
set_option maxHeartbeats 400000 in
theorem pop_of_I (w : World) (q : Value) (R : World → Prop) (x y : Value) (h : Calls Try.prog 17 #[q, .int .i64 0] w (Gives2 R x y)) :
    Calls Try.prog 14 #[q] w (Gives2 R x y) := by
  have H := Lib.hid h
  clear h
  go_enter Try.func14, Try.ntmps14
  go_wp2_with fail
  refine H.out.mono ?_
  rintro e w1 ⟨rfl, hr⟩
  go_wp2_with fail
  go_ret2
  exact ⟨rfl, hr⟩
end Go.Proofs.Ytdpchojfgcjbeaa
