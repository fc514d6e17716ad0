/- handle.Pack at every slice of handles that was there; no condition but those that each row names. -/
import Derived.Test.YtokplbfjpabolaaDoorHAppend
namespace Go.Proofs.YtokplbfjpabolaaDoor
open Go.RowKit

theorem cell_lt {w : World} {a : Addr} {v : Value} (h : w.cell? a = some v) : a.block < w.heap.size := by
  rcases Nat.lt_or_ge a.block w.heap.size with h' | h'
  · exact h'
  · simp [World.cell?, Array.getElem?_eq_none h'] at h

/-- A slice's value that reads as zs. -/
def Ints (w : World) (v : Value) (zs : List Int) : Prop :=
  ∃ p cap, v = .slice p zs.length cap ∧ zs.length ≤ 9223372036854775807 ∧ ∀ j x, zs[j]? = some x → ∃ b off, p = some ⟨b, off, none⟩ ∧ w.cell? ⟨b, off + j, none⟩ = some (.int .i64 x)
theorem Ints.below {w w' : World} {v : Value} {zs : List Int} (h : Ints w v zs) (hb : Below w.heap.size w w') : Ints w' v zs := by
  obtain ⟨p, cap, e, hl, hc⟩ := h
  refine ⟨p, cap, e, hl, fun j x hx => ?_⟩
  obtain ⟨b, off, e2, hcell⟩ := hc j x hx
  exact ⟨b, off, e2, (hb.cell (cell_lt hcell)).trans hcell⟩

def packL (zs : List Int) : List UInt8 := zs.flatMap six
theorem packL_len (zs : List Int) : (packL zs).length = 6 * zs.length := by
  induction zs with
  | nil => rfl
  | cons z r ih =>
    have : packL (z :: r) = six z ++ packL r := rfl
    rw [this, List.length_append, ih, six_length, List.length_cons]
    omega
theorem packL_snoc (zs : List Int) (z : Int) : packL (zs ++ [z]) = packL zs ++ six z := by unfold packL; simp
theorem take_next {zs : List Int} {k : Nat} {x : Int} (h : zs[k]? = some x) : zs.take (k + 1) = zs.take k ++ [x] := by
  rw [List.take_add_one, h]; rfl
theorem pk_next {zs : List Int} {k : Nat} {x : Int} (h : zs[k]? = some x) (hx : pk x) (hk : ∀ z ∈ zs.take k, pk z) : ∀ z ∈ zs.take (k + 1), pk z := by
  rw [take_next h]
  intro z hz
  rw [List.mem_append, List.mem_singleton] at hz
  rcases hz with hz | rfl
  · exact hk z hz
  · exact hx
open Classical in
/-- What Pack answers, of at most 4,096. -/
noncomputable def packV (zs : List Int) (err : Value) (ok : Value) : Ending :=
  if ∀ z ∈ zs, pk z then .returned (.tuple #[.string ⟨(packL zs).toArray⟩, ok]) else .returned (.tuple #[.string ⟨#[]⟩, err])
theorem packV_ok {zs : List Int} {err ok : Value} (h : ∀ z ∈ zs, pk z) : packV zs err ok = .returned (.tuple #[.string ⟨(packL zs).toArray⟩, ok]) := by unfold packV; rw [if_pos h]
theorem packV_no {zs : List Int} {err ok : Value} {k : Nat} {x : Int} (h : zs[k]? = some x) (hx : ¬ pk x) : packV zs err ok = .returned (.tuple #[.string ⟨#[]⟩, err]) := by
  unfold packV; rw [if_neg fun k => hx (k x (List.mem_of_getElem? h))]

theorem pack_long (w : World) (v : Value) (zs : List Int) (h : Ints w v zs) (hn : 4096 < zs.length) :
    Calls Tryd.prog 27 #[v] w fun e w' => e = .returned (.tuple #[.string ⟨#[]⟩, .iface 54 (.int .i64 3)]) ∧ Below w.heap.size w w' := by
  obtain ⟨p, cap, rfl, hm, hc⟩ := h
  clear hc
  go_enter Tryd.func27, Tryd.ntmps27
  go_wp2_with fail
  go_ret2
  exact ⟨rfl, Below.refl _ _⟩

set_option maxHeartbeats 4000000 in
set_option maxRecDepth 100000 in
theorem pack_ints (w : World) (v : Value) (zs : List Int) (h : Ints w v zs) (hn : zs.length ≤ 4096) :
    Calls Tryd.prog 27 #[v] w fun e w' => e = packV zs (.iface 54 (.int .i64 20)) .nilIface ∧ Below w.heap.size w w' := by
  obtain ⟨i0, hi, hz0, hz1, hz2⟩ := info_parts Tryd.info5
  obtain ⟨p, cap, rfl, hm, hc⟩ := h
  have HC := Lib.hid hc
  clear hc hm
  go_enter Tryd.func27, Tryd.ntmps27
  go_wp2_with (at_make; refine wpList_make_own _ rfl _ _ 63 rfl w.heap.size 5 i0 (.int .u8 0) 1 Tryd.underlying63 hi hz0 hz1 .i64 .i64 _ (zs.length * 6) rfl rfl (by first | rfl | omega) (by rw [hz2]; omega) (by unfold maxLen; omega) (Nat.le_refl _) ?_; intro w0 hown0 hgrow0)
  have hb0 : Below w.heap.size w w0 := (Below.refl _ _).grown hgrow0 (Nat.le_refl _) (by simp)
  have hO : OwnB 5 w.heap.size w0 (.slice (some ⟨w.heap.size, 0, none⟩) (packL (zs.take 0)).length (zs.length * 6)) (packL (zs.take 0)) := hown0
  have HO := Lib.hid hO
  clear hO hown0 hgrow0
  go_loopw [4, 17] (fun v i wr => ∃ (k g cap : Nat), k ≤ zs.length ∧ i = .int .i64 k ∧ v = .slice (some ⟨g, 0, none⟩) (packL (zs.take k)).length cap ∧
      Hid (OwnB 5 w.heap.size wr (.slice (some ⟨g, 0, none⟩) (packL (zs.take k)).length cap) (packL (zs.take k))) ∧ Hid (∀ z ∈ zs.take k, pk z) ∧ Below w.heap.size w wr) (fun _ i _ => zs.length - (intOf i).toNat)
  case atStart => exact ⟨0, w.heap.size, _, Nat.zero_le _, rfl, rfl, HO, Lib.hid (by simp), hb0⟩
  case round =>
    obtain ⟨k, g, cap', hk, rfl, rfl, HX, HP, hb⟩ := hrel
    by_cases hlt : k < zs.length
    · obtain ⟨x, hx⟩ : ∃ x, zs[k]? = some x := ⟨zs[k], List.getElem?_eq_getElem hlt⟩
      obtain ⟨b, off, rfl, hcell0⟩ := HC.out k x hx
      have hcell : wr.cell? ⟨b, off + k, none⟩ = some (.int .i64 x) := (hb.cell (p := ⟨b, off + k, none⟩) (cell_lt hcell0)).trans hcell0
      have HXX := Lib.hid hx
      clear hx hcell0
      by_cases hpk : pk x
      · have HK := Lib.hid (packs_yes x hpk)
        have hle : (packL (zs.take k)).length ≤ 65536 := by rw [packL_len, List.length_take]; omega
        have HA := Lib.hid (appendNumber_any w.heap.size _ _ x wr hb.size hle HX.out)
        go_wp2_with fail
        refine (HK.out _).mono ?_
        rintro e w1 ⟨rfl, rfl⟩
        go_wp2_with fail
        refine (HA.out).mono ?_
        rintro e w1 ⟨v', rfl, hO', hb'⟩
        have e2 : packL (zs.take k) ++ six x = packL (zs.take (k + 1)) := by rw [take_next HXX.out, packL_snoc]
        rw [e2] at hO'
        obtain ⟨g', cap'', rfl⟩ := ownB_shape hO' (by rw [packL_len, List.length_take]; omega)
        have HO' := Lib.hid hO'
        have hb2 := hb.trans hb'
        have HP' := Lib.hid (pk_next HXX.out hpk HP.out)
        clear hO' e2
        go_wp2_with fail
        go_roundw
        case rel => exact ⟨k + 1, g', cap'', by omega, by go_num, rfl, HO', HP', hb2⟩
        case measure => simp [intOf]; omega
      · have HK := Lib.hid (packs_no x hpk)
        have HN := Lib.hid hpk
        clear hpk
        go_wp2_with fail
        refine (HK.out _).mono ?_
        rintro e w1 ⟨rfl, rfl⟩
        go_wp2_with fail
        go_ret2
        exact ⟨(packV_no HXX.out HN.out).symm, hb⟩
    · have hk' : k = zs.length := by omega
      have hall : ∀ z ∈ zs, pk z := by have := HP.out; rw [List.take_of_length_le (by omega)] at this; exact this
      have HL := Lib.hid hall
      have HT := Lib.hid (show zs.take k = zs from List.take_of_length_le (by omega))
      have hcv := run_convert_bytes_back (P := Tryd.prog) wr 63 9 5 ⟨g, 0, none⟩ cap' _ Tryd.underlying63 Tryd.underlying5 Tryd.underlying9 (ownB_cells HX.out)
      clear hk' hall
      go_wp2_with fail
      go_ret2
      exact ⟨(congrArg (fun l => Ending.returned (.tuple #[.string ⟨(packL l).toArray⟩, .nilIface])) HT.out).trans (packV_ok HL.out).symm, hb⟩
end Go.Proofs.YtokplbfjpabolaaDoor
