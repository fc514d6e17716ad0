/- The walk of the law HandlePacks: it answers true for every slice of handles and every text; it writes nothing that was there. -/
import Derived.Test.YtokplbfjpabolaaDoorHWorks
import Derived.Test.YtokplbfjpabolaaDoorHSame
import Derived.Test.YtokplbfjpabolaaDoorHPackRef
import Derived.Test.YtokplbfjpabolaaDoorHUnpackRef
import Derived.Laws.AppendOwnNone
namespace Go.Proofs.YtokplbfjpabolaaDoor
open Go.RowKit

/-- A slice that came in, as append asks it. -/
def InSlice (w : World) (v : Value) (zs : List Int) : Prop :=
  (v = .slice none 0 0 ∧ zs = []) ∨ ∃ a cap, v = .slice (some a) zs.length cap ∧ ∀ j x, zs[j]? = some x → w.cell? (a.add j) = some (.int .i64 x)

theorem news_in {w : World} {a : Addr} {zs : List Int} (h : ∀ j x, zs[j]? = some x → w.cell? (a.add j) = some (.int .i64 x)) : ∀ (j : Nat) u, (icells zs)[j]? = some u → w.cell? (a.add j) = some u := by
  intro j u hu
  unfold icells at hu
  rw [List.getElem?_map] at hu
  obtain ⟨x, hx, rfl⟩ := Option.map_eq_some_iff.1 hu
  exact h j x hx
theorem icells_one {zs : List Int} : ∀ u ∈ icells zs, u.oneCell' = true := by
  intro u hu
  unfold icells at hu
  obtain ⟨x, _, rfl⟩ := List.mem_map.1 hu
  rfl

/-- What becomes of Pack, and of Unpack, by contract. -/
def PackC (f : FuncId) (zs : List Int) (T : ByteArray) (X : Value) : Prop :=
  ∀ w v, Ints w v zs → Calls Tryd.prog f #[v] w fun e w' => e = .returned (.tuple #[.string T, X]) ∧ Below w.heap.size w w'
def UnpackC (f : FuncId) (s : ByteArray) (us : List Int) (Y : Value) : Prop :=
  ∀ w, Calls Tryd.prog f #[.string s] w fun e w' => ∃ v, e = .returned (.tuple #[v, Y]) ∧ Ints w' v us ∧ Below w.heap.size w w'

set_option maxHeartbeats 4000000 in
set_option maxRecDepth 100000 in
theorem packs_of (w : World) (v : Value) (zs us : List Int) (s T : ByteArray) (X Y : Value) (N M : Int) (hg : LaidAt w) (hv : Ints w v zs) (hin : InSlice w v zs) (hr : zs.length * 8 ≤ 140737488355328)
    (hX : ErrV X N) (hY : ErrV Y M) (hP : PackC 27 zs T X) (hR : PackC 28 zs T (.int .i64 N))
    (hU : UnpackC 29 s us Y) (hV : UnpackC 30 s us (.int .i64 M)) :
    Calls Tryd.prog 6 #[v, .string s] w fun e w' => e = .returned (.bool true) ∧ Below w.heap.size w w' := by
  obtain ⟨i0, hi, hz0, hz1, hz2⟩ := info_parts Tryd.info22
  have JG := Lib.hid hg
  have JV := Lib.hid hv
  have JX := Lib.hid (num_any X N hX)
  have JY := Lib.hid (num_any Y M hY)
  have JP := Lib.hid hP
  have JR := Lib.hid hR
  have JU := Lib.hid hU
  have JW := Lib.hid hV
  have HO0 := Lib.hid (show OwnI 22 w.heap.size w (.slice none 0 0) [] from ⟨rfl, .inl ⟨rfl, rfl⟩⟩)
  clear hg hv hX hY hP hR hU hV
  rcases hin with ⟨rfl, rfl⟩ | ⟨a, cap, rfl, hc⟩
  · have hmine := Lib.hid (ints_nil w)
    go_enter Tryd.func6, Tryd.ntmps6
    go_wp2_with (at_builtin; refine wpList_append_own_none _ rfl _ _ 40 rfl w.heap.size 22 i0 1 Tryd.underlying40 hi (.slice none 0 0) 0 [] rfl HO0.out rfl ?_)
    refine (JP.out _ _ hmine.out).mono ?_
    rintro e w1 ⟨rfl, hb1⟩
    go_wp2_with fail
    refine (JR.out _ _ (JV.out.below hb1)).mono ?_
    rintro e w2 ⟨rfl, hb2⟩
    have hB2 := bnext hb1 hb2
    go_wp2_with fail
    refine (JU.out _).mono ?_
    rintro e w3 ⟨x3, rfl, hi3, hb3⟩
    have H3 := Lib.hid hi3
    have hB3 := bnext hB2 hb3
    clear hi3
    go_wp2_with fail
    refine (JW.out _).mono ?_
    rintro e w4 ⟨x4, rfl, hi4, hb4⟩
    have H4 := Lib.hid hi4
    have hB4 := bnext hB3 hb4
    clear hi4
    go_wp2_with fail
    refine (JX.out _).mono ?_
    rintro e w5 ⟨rfl, rfl⟩
    go_wp2_with fail
    refine (same_true _ _ _ us (H3.out.below hb4) H4.out).mono ?_
    rintro e w5 ⟨rfl, hb5⟩
    have hB5 := bnext hB4 hb5
    go_wp2_with fail
    refine (JY.out _).mono ?_
    rintro e w6 ⟨rfl, rfl⟩
    go_wp2_with fail
    refine (same_true _ _ _ [] (hmine.out.below hB5) (JV.out.below hB5)).mono ?_
    rintro e w6 ⟨rfl, hb6⟩
    have hB6 := bnext hB5 hb6
    go_wp2_with fail
    refine (works_any _ (JG.out.below hB6)).mono ?_
    rintro e w7 ⟨rfl, hb7⟩
    go_wp2_with fail
    go_ret
    exact ⟨rfl, bnext hB6 hb7⟩
  · go_enter Tryd.func6, Tryd.ntmps6
    have HC := Lib.hid hc
    clear hc
    go_wp2_with (at_builtin; refine wpList_append_own _ rfl _ _ 40 rfl w.heap.size 22 i0 (.int .i64 0) 1 8 Tryd.underlying40 hi hz0 hz1 hz2 rfl (by decide) (.slice none 0 0) 0 [] rfl HO0.out a zs.length cap (icells zs) rfl (by simp [icells]) (news_in HC.out) icells_one (by unfold maxLen; omega) (by omega) (Nat.le_refl _) ?_)
    intro v' w0 hown hgrow _
    have hb0 : Below w.heap.size w w0 := (Below.refl _ _).grown hgrow (Nat.le_refl _) (by simp [Value.ownBlock])
    have hO : OwnI 22 w.heap.size w0 v' zs := by unfold OwnI; simpa using hown
    have hmine := Lib.hid (ownI_ints hO (by omega))
    clear hown hgrow hO
    go_wp2_with fail
    refine (JP.out _ _ hmine.out).mono ?_
    rintro e w1 ⟨rfl, hb1⟩
    have hB1 := bnext hb0 hb1
    go_wp2_with fail
    refine (JR.out _ _ (JV.out.below hB1)).mono ?_
    rintro e w2 ⟨rfl, hb2⟩
    have hB2 := bnext hB1 hb2
    go_wp2_with fail
    refine (JU.out _).mono ?_
    rintro e w3 ⟨x3, rfl, hi3, hb3⟩
    have H3 := Lib.hid hi3
    have hB3 := bnext hB2 hb3
    clear hi3
    go_wp2_with fail
    refine (JW.out _).mono ?_
    rintro e w4 ⟨x4, rfl, hi4, hb4⟩
    have H4 := Lib.hid hi4
    have hB4 := bnext hB3 hb4
    clear hi4
    go_wp2_with fail
    refine (JX.out _).mono ?_
    rintro e w5 ⟨rfl, rfl⟩
    go_wp2_with fail
    refine (same_true _ _ _ us (H3.out.below hb4) H4.out).mono ?_
    rintro e w5 ⟨rfl, hb5⟩
    have hB5 := bnext hB4 hb5
    go_wp2_with fail
    refine (JY.out _).mono ?_
    rintro e w6 ⟨rfl, rfl⟩
    go_wp2_with fail
    refine (same_true _ _ _ zs (hmine.out.below (bnext (bnext (bnext (bnext hb1 hb2) hb3) hb4) hb5)) (JV.out.below hB5)).mono ?_
    rintro e w6 ⟨rfl, hb6⟩
    have hB6 := bnext hB5 hb6
    go_wp2_with fail
    refine (works_any _ (JG.out.below hB6)).mono ?_
    rintro e w7 ⟨rfl, hb7⟩
    go_wp2_with fail
    go_ret
    exact ⟨rfl, bnext hB6 hb7⟩

theorem packs_any (w : World) (v : Value) (zs : List Int) (s : ByteArray) (hg : LaidAt w) (hv : Ints w v zs) (hin : InSlice w v zs) (hr : zs.length * 8 ≤ 140737488355328) (hs : s.size ≤ 9223372036854775807) :
    Calls Tryd.prog 6 #[v, .string s] w fun e w' => e = .returned (.bool true) ∧ Below w.heap.size w w' := by
  have hp : ∃ T X N, ErrV X N ∧ PackC 27 zs T X ∧ PackC 28 zs T (.int .i64 N) := by
    by_cases hn : zs.length ≤ 4096
    · by_cases hk : ∀ z ∈ zs, pk z
      · exact ⟨_, _, 0, .inl ⟨rfl, rfl⟩, fun w v h => by have := pack_ints w v zs h hn; rw [packV_ok hk] at this; exact this, fun w v h => by have := rpack_ints w v zs h hn; rw [packV_ok hk] at this; exact this⟩
      · have e : ∀ err ok, packV zs err ok = .returned (.tuple #[.string ⟨#[]⟩, err]) := fun err ok => by unfold packV; rw [if_neg hk]
        exact ⟨_, _, 20, .inr rfl, fun w v h => by have := pack_ints w v zs h hn; rw [e] at this; exact this, fun w v h => by have := rpack_ints w v zs h hn; rw [e] at this; exact this⟩
    · exact ⟨_, _, 3, .inr rfl, fun w v h => pack_long w v zs h (by omega), fun w v h => rpack_long w v zs h (by omega)⟩
  have hu : ∃ us Y M, ErrV Y M ∧ UnpackC 29 s us Y ∧ UnpackC 30 s us (.int .i64 M) := by
    by_cases hl : s.size ≤ 24576
    · by_cases h6 : s.size % 6 = 0
      · have hn : s.size = 6 * (s.size / 6) := by omega
        by_cases hk : ∀ j, j < s.size / 6 → pk (nAt s.data.toList j)
        · refine ⟨unF s.data.toList (s.size / 6), _, 0, .inl ⟨rfl, rfl⟩, fun w => (unpack_any s _ w hl hn).mono ?_, fun w => (runpack_any s _ w hl hn).mono ?_⟩
          · rintro e w' ⟨v, he, hi, hb⟩
            rw [if_pos hk] at he hi
            exact ⟨v, he, hi, hb⟩
          · rintro e w' ⟨v, he, hi, hb⟩
            rw [if_pos hk] at he hi
            exact ⟨v, he, hi, hb⟩
        · refine ⟨[], _, 20, .inr rfl, fun w => (unpack_any s _ w hl hn).mono ?_, fun w => (runpack_any s _ w hl hn).mono ?_⟩
          · rintro e w' ⟨v, he, hi, hb⟩
            rw [if_neg hk] at he hi
            exact ⟨v, he, hi, hb⟩
          · rintro e w' ⟨v, he, hi, hb⟩
            rw [if_neg hk] at he hi
            exact ⟨v, he, hi, hb⟩
      · exact ⟨[], _, 4, .inr rfl, fun w => (unpack_form s w hl h6).mono fun e w' ⟨he, hb⟩ => ⟨_, he, ints_nil _, hb⟩, fun w => (runpack_form s w hl h6).mono fun e w' ⟨he, hb⟩ => ⟨_, he, ints_nil _, hb⟩⟩
    · exact ⟨[], _, 3, .inr rfl, fun w => (unpack_long s w (by omega) hs).mono fun e w' ⟨he, hb⟩ => ⟨_, he, ints_nil _, hb⟩, fun w => (runpack_long s w (by omega) hs).mono fun e w' ⟨he, hb⟩ => ⟨_, he, ints_nil _, hb⟩⟩
  obtain ⟨T, X, N, h1, h2, h3⟩ := hp
  obtain ⟨us, Y, M, h4, h5, h6⟩ := hu
  exact packs_of w v zs us s T X Y N M hg hv hin hr h1 h4 h2 h3 h5 h6
end Go.Proofs.YtokplbfjpabolaaDoor
