/- The library's calls of stage 2 at this program: strconv.Itoa from 0 on, strconv.Atoi at every text, strings.Cut at a dot, strings.IndexByte; no condition but what the row's listed variables hold. -/
import Derived.Test.YtokplbfjpabolaaDoorShelf
import Derived.Test.YtokplbfjpabolaaDoorHParts
import Derived.Test.YtokplbfjpabolaaDoorHText
import Derived.BigCall
import Derived.Lib.Walk
import Derived.Lib.CutLaws
namespace Go.Proofs.YtokplbfjpabolaaDoor
open Go.RowKit

theorem var_below {P : Program} {w w' : World} {n : String} {cs : Array Value} (h : w.var? P n = some cs) (hb : Below w.heap.size w w') : w'.var? P n = some cs := by
  unfold World.var? at *
  cases hg : P.globalNamed n with
  | none => rw [hg] at h; simp at h
  | some g =>
    rw [hg] at h
    simp only [Option.bind_some] at h ⊢
    have hlt : g < w.heap.size := by
      rcases Nat.lt_or_ge g w.heap.size with h' | h'
      · exact h'
      · rw [Array.getElem?_eq_none h'] at h; simp at h
    rw [hb.block g hlt]
    exact h

/-- What the listed variables hold, as the library's calls ask it. -/
structure LaidAt (w : World) : Prop where
  tab : Lib.TabIs Tryd.prog w "internal/strconv.uint64pow10" .u64 Lib.pow10Tab
  syn : ∃ tp p, w.var? Tryd.prog "strconv.ErrSyntax" = some #[.iface tp p]
  ran : ∃ tp p, w.var? Tryd.prog "strconv.ErrRange" = some #[.iface tp p]
theorem LaidAt.below {w w' : World} (h : LaidAt w) (hb : Below w.heap.size w w') : LaidAt w' :=
  ⟨var_below h.tab hb, h.syn.elim fun t ⟨p, e⟩ => ⟨t, p, var_below e hb⟩, h.ran.elim fun t ⟨p, e⟩ => ⟨t, p, var_below e hb⟩⟩

theorem below_grow (w : World) (k : Nat) (os : Array Obj) : Below w.heap.size w (Sort.grow (w.drewN k) os) :=
  ⟨rfl, rfl, rfl, by simp, fun b hb => by rw [Sort.heap_grow_old _ _ (by simpa using hb)]; simp⟩

theorem itoa_any (n : Nat) (hn : n ≤ 9223372036854775807) (w : World) (hg : LaidAt w) :
    Calls Tryd.prog 37 #[.int .i64 n] w fun e w' => e = .returned (.string ⟨(Lib.decDigits n).toArray⟩) ∧ Below w.heap.size w w' := by
  refine (Tryd.strconv_Itoa n (by omega) (by omega) w hg.tab).mono ?_
  rintro e w' ⟨rfl, k, os, rfl⟩
  refine ⟨?_, below_grow w k os⟩
  unfold Lib.itoa
  rw [if_neg (by omega), Int.toNat_natCast]

theorem atoi_ok (s : ByteArray) (hs : s.size ≤ 32) (v : Int) (h : Lib.atoiAll s.data.toList = .ok v) (w : World) :
    Calls Tryd.prog 43 #[.string s] w fun e w' => e = .returned (.tuple #[.int .i64 v, .nilIface]) ∧ Below w.heap.size w w' := by
  refine (Tryd.strconv_Atoi_ok s (by omega) v h w).mono ?_
  rintro e w' ⟨rfl, rfl | ⟨t, rfl⟩⟩
  · exact ⟨rfl, Below.refl _ _⟩
  · exact ⟨rfl, Lib.bytesWorld_below _ _ _⟩

theorem atoi_no (s : ByteArray) (hs : s.size ≤ 32) (h : ∀ v, Lib.atoiAll s.data.toList ≠ .ok v) (w : World) (hg : LaidAt w) :
    Calls Tryd.prog 43 #[.string s] w fun e w' => ∃ n a, e = .returned (.tuple #[.int .i64 n, .iface 76 (.pointer (some a))]) ∧ Below w.heap.size w w' := by
  cases hv : Lib.atoiAll s.data.toList with
  | ok v => exact absurd hv (h v)
  | «syntax» =>
    obtain ⟨tp, p, e⟩ := hg.syn
    refine (Tryd.strconv_Atoi_syntax_var s (by omega) hv tp p w e).mono ?_
    rintro e w' ⟨N, rfl, _, _, hb⟩
    exact ⟨_, _, rfl, hb⟩
  | range =>
    obtain ⟨tp, p, e⟩ := hg.ran
    refine (Tryd.strconv_Atoi_range_var s (by omega) hv tp p w e).mono ?_
    rintro e w' ⟨N, rfl, _, _, hb⟩
    exact ⟨_, _, rfl, hb⟩

theorem indexByte_any (s : ByteArray) (c : Int) (w : World) :
    Calls Tryd.prog 44 #[.string s, .int .u8 c] w fun e w' => e = .returned (.int .i64 (Lib.indexByte s.data.toList c.toNat.toUInt8)) ∧ w = w' :=
  (Tryd.strings_IndexByte s c w).mono fun _ _ ⟨he, hw⟩ => ⟨he, hw.symm⟩

theorem extract_list (s : ByteArray) (a b : Nat) : (s.extract a b).data.toList = (s.data.toList.take b).drop a := by
  rw [ByteArray.data_extract, Array.toList_extract, List.extract_eq_take_drop]
  simp [List.drop_take]

theorem ba_of_list {s : ByteArray} {l : List UInt8} (h : s.data.toList = l) : s = ⟨l.toArray⟩ := by
  subst h
  cases s
  simp
theorem list_of_ba (l : List UInt8) : (⟨l.toArray⟩ : ByteArray).data.toList = l := by simp
theorem ret_cut {a b x y : ByteArray} {c : Bool} (h1 : a = x) (h2 : b = y) : Ending.returned (.tuple #[.string a, .string b, .bool c]) = .returned (.tuple #[.string x, .string y, .bool c]) := by rw [h1, h2]

set_option maxHeartbeats 1000000 in
set_option maxRecDepth 100000 in
theorem cut_in (s : ByteArray) (w : World) (hs : s.size ≤ 32) :
    Calls Tryd.prog 46 #[.string s, .string ⟨#[46]⟩] w fun e w' => ∃ b, e = .returned (.tuple #[.string ⟨(cutDot s.data.toList).1.toArray⟩, .string ⟨(cutDot s.data.toList).2.toArray⟩, .bool b]) ∧ Below w.heap.size w w' := by
  have hl : s.data.toList.length = s.size := Array.length_toList
  have hlt := indexByte_lt 46 s.data.toList
  have hge := Lib.indexByte_ge s.data.toList 46
  rw [hl] at hlt
  have HI := Lib.hid (fun w => Tryd.stringslite_Index_one s 46 w)
  by_cases h : 0 ≤ Lib.indexByte s.data.toList 46
  · obtain ⟨i, hi⟩ := Int.eq_ofNat_of_zero_le h
    have e : cutDot s.data.toList = (s.data.toList.take i, s.data.toList.drop (i + 1)) := by unfold cutDot; rw [if_pos h, hi]; rfl
    rw [hi] at HI hlt
    have c1 : (0 : Int) ≤ (i : Int) := by omega
    have c2 : (i : Int) ≤ (s.size : Int) := by omega
    have c3 : (0 : Int) ≤ (i : Int) + 1 := by omega
    have c4 : (i : Int) + 1 ≤ (s.size : Int) := by omega
    have HE := Lib.hid e
    clear e h hi hge hl hlt
    go_enter Tryd.func46, Tryd.ntmps46
    go_wp2_with fail
    refine (HI.out _).mono ?_
    rintro e w1 ⟨rfl, rfl⟩
    go_wp2_with fail
    go_region
    go_wp2
    go_ret3
    rw [HE.out]
    exact ⟨true, ret_cut (ba_of_list (by rw [extract_list]; simp)) (ba_of_list (by rw [extract_list, List.take_of_length_le (show s.data.toList.length ≤ s.size from Nat.le_of_eq Array.length_toList)])), (Below.refl _ _).drew⟩
  · have e : cutDot s.data.toList = (s.data.toList, []) := by unfold cutDot; rw [if_neg h]
    have hi : Lib.indexByte s.data.toList 46 = -1 := by omega
    rw [hi] at HI
    rw [e]
    clear e h hi hge hl hlt
    go_enter Tryd.func46, Tryd.ntmps46
    go_wp2_with fail
    refine (HI.out _).mono ?_
    rintro e w1 ⟨rfl, rfl⟩
    go_wp2_with fail
    go_ret3
    exact ⟨_, rfl, Below.refl _ _⟩

theorem cut_dot (s : ByteArray) (w : World) (hs : s.size ≤ 32) :
    Calls Tryd.prog 42 #[.string s, .string ⟨#[46]⟩] w fun e w' => ∃ b, e = .returned (.tuple #[.string ⟨(cutDot s.data.toList).1.toArray⟩, .string ⟨(cutDot s.data.toList).2.toArray⟩, .bool b]) ∧ Below w.heap.size w w' := by
  have H := Lib.hid (cut_in s)
  go_enter Tryd.func42, Tryd.ntmps42
  go_wp2_with fail
  refine (H.out _ hs).mono ?_
  rintro e w1 ⟨b, rfl, hb⟩
  go_wp2_with fail
  go_ret3
  exact ⟨_, rfl, hb⟩
end Go.Proofs.YtokplbfjpabolaaDoor
