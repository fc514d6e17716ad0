/- The program's Cross; no condition but those that each row names. -/
import Derived.Test.YtilbohjkkdkdiaaGOps
namespace Go.Proofs.Ytilbohjkkdkdiaa
open Go.RowKit

/-- What Cross answers. -/
def Crossed (b : Nat) (f' : Nat → Cl) (r what : Int) (w : World) (e : Ending) (w' : World) : Prop := Turns b f' (.tuple #[.int .i64 what, errV r]) w e w'
set_option maxHeartbeats 4000000 in
theorem cross_any (b : Nat) (f : Nat → Cl) (s : Int) (w : World) (hb : BK BT w b f) (hG : Good f) :
    Calls Try.prog 18 #[.pointer (some ⟨b, 0, none⟩), .int .i64 s] w (Crossed b (croF f s) (croE f s) (croW f s) w) := by
  have hw := cro_way hG s
  generalize croE f s = r at *
  generalize croW f s = what at *
  generalize croF f s = f' at *
  have HB := Lib.hid hb
  cases hw with
  | no h => exact (cross_err _ s 20 w (claim_no b f s w hb hG h)).mono fun e w' ⟨h1, h2⟩ => by subst h1; exact turns_same hb h2
  | gone k a x hs hk h ha =>
    subst hs
    have HO := Lib.hid (claim_at b f k a x true w hk hb h ha)
    have hk' : (k : Int) < 64 := by omega
    clear hb hG h ha
    go_enter Try.func18, Try.ntmps18
    go_wp2_with fail
    refine HO.out.mono ?_
    rintro e w2 ⟨rfl, hb2⟩
    obtain ⟨c0, c1, c2, c3⟩ := (HB.out.below hb2).cells k hk
    have f0 := (HB.out.below hb2).free (k * 4)
    have f1 := (HB.out.below hb2).free (k * 4 + 1)
    have f2 := (HB.out.below hb2).free (k * 4 + 2)
    have f3 := (HB.out.below hb2).free (k * 4 + 3)
    have hlt := (HB.out.below hb2).lt
    have hS := (HB.out.below hb2).set k zc
    simp only [zc] at hS
    have HE := Lib.hid (show Crossed b (upd f k zc) 0 2 w (.returned (.tuple #[.int .i64 2, .nilIface])) _ from ⟨rfl, hS.alloc (.cells #[.int .i64 k, .int .i64 a, .int .i64 x, .bool true] 35), (kset (kset (kset (kset (kbel hb2) _) _) _) _).alloc _⟩)
    clear hb2 hS
    go_wp2_with fail
    go_ret2
    exact HE.out
  | stays k a hs hk h ha =>
    subst hs
    have HO := Lib.hid (claim_at b f k a 0 false w hk hb h ha)
    clear hb hG h ha
    go_enter Try.func18, Try.ntmps18
    go_wp2_with fail
    refine HO.out.mono ?_
    rintro e w2 ⟨rfl, hb2⟩
    have HB2 := Lib.hid hb2
    clear hb2
    go_wp2_with fail
    go_ret2
    have hbw := HB2.out
    have hz := hbw.size
    exact turns_same HB.out (by repeat (first | exact Below.refl _ _ | (with_reducible assumption) | refine Below.drew ?_ | (refine Below.alloc ?_ (by first | exact Nat.le_refl _ | omega | (simp; done) | (simp; omega)) _) | (refine Below.setCell ?_ (by first | omega | (simp; done) | (simp; omega)) _)))
  | switched k a x hs hk h ha hx hx2 =>
    subst hs
    have HO := Lib.hid (claim_at b f k a x false w hk hb h ha)
    have hk' : (k : Int) < 64 := by omega
    have y0 : (x != 0) = true := by simp; omega
    clear hb hG h ha
    go_enter Try.func18, Try.ntmps18
    go_wp2_with fail
    refine HO.out.mono ?_
    rintro e w2 ⟨rfl, hb2⟩
    obtain ⟨c0, c1, c2, c3⟩ := (HB.out.below hb2).cells k hk
    have f0 := (HB.out.below hb2).free (k * 4)
    have f1 := (HB.out.below hb2).free (k * 4 + 1)
    have f2 := (HB.out.below hb2).free (k * 4 + 2)
    have f3 := (HB.out.below hb2).free (k * 4 + 3)
    have hlt := (HB.out.below hb2).lt
    have hS := (HB.out.below hb2).set k ⟨k, x, 0, false⟩
    simp only at hS
    have HS := Lib.hid hS
    have HK := Lib.hid ((kset (o := k * 4 + 3) (kset (o := k * 4 + 2) (kset (o := k * 4 + 1) (kset (o := k * 4) (kbel (b := b) hb2) (.int .i64 k)) (.int .i64 x)) (.int .i64 0)) (.bool false)).alloc (.cells #[.int .i64 k, .int .i64 a, .int .i64 x, .bool false] 35))
    have HA := Lib.hid (HS.out.alloc (.cells #[.int .i64 k, .int .i64 a, .int .i64 x, .bool false] 35))
    clear hb2 hS
    go_wp2_with fail
    go_region
    all_goals
      go_wp2_with fail
      go_ret2
      exact ⟨rfl, HA.out.drew, HK.out.drew⟩
end Go.Proofs.Ytilbohjkkdkdiaa
