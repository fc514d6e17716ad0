/- handle.Unpack at every text; no condition but those that each row names. -/
import Derived.Test.YtokplbfjpabolaaDoorHPack
import Derived.Test.YtokplbfjpabolaaDoorHLib
namespace Go.Proofs.YtokplbfjpabolaaDoor
open Go.RowKit

theorem Tryd.info22 : (Tryd.prog.info? 22).map (fun i => (i.zero, i.size, i.bytes)) = some (some (.int .i64 0), 1, 8) := by kernel_rfl

def icells (l : List Int) : List Value := l.map fun z => .int .i64 z
/-- v is a slice of the call's own that holds the numbers xs. -/
def OwnI (E base : Nat) (w : World) (v : Value) (xs : List Int) : Prop := w.ownsRow base E 1 v xs.length (icells xs)
theorem ownI_next {E base : Nat} {w : World} {v : Value} {xs : List Int} (z : Int) (h : w.ownsRow base E 1 v (xs.length + 1) (icells xs ++ [.int .i64 z])) : OwnI E base w v (xs ++ [z]) := by
  unfold OwnI
  rw [List.length_append, show icells (xs ++ [z]) = icells xs ++ [.int .i64 z] by unfold icells; rw [List.map_append]; rfl]
  exact h
theorem ownI_shape0 {E base : Nat} {w : World} {v : Value} {xs : List Int} (h : OwnI E base w v xs) : ∃ p cap, v = .slice p xs.length cap := by
  obtain ⟨h1, h2⟩ := h
  rcases h2 with ⟨rfl, h2⟩ | ⟨g, cap, cur, hv, _⟩
  · have : xs = [] := by simpa [icells] using h2
    subst this
    exact ⟨_, _, rfl⟩
  · exact ⟨_, cap, hv⟩
theorem addr_add (g j : Nat) : (⟨g, 0, none⟩ : Addr).add j = ⟨g, 0 + j, none⟩ := by
  unfold Addr.add
  split
  · next h => subst h; rfl
  · rfl
theorem ownI_ints {E base : Nat} {w : World} {v : Value} {xs : List Int} (h : OwnI E base w v xs) (hl : xs.length ≤ 9223372036854775807) : Ints w v xs := by
  have h' := h
  obtain ⟨h1, h2⟩ := h
  rcases h2 with ⟨rfl, h2⟩ | ⟨g, cap, cur, rfl, _⟩
  · have : xs = [] := by simpa [icells] using h2
    subst this
    exact ⟨none, 0, rfl, hl, fun j x hx => by simp at hx⟩
  · refine ⟨_, cap, rfl, hl, fun j x hx => ⟨g, 0, rfl, ?_⟩⟩
    have := World.ownsRow.cells h' rfl j (.int .i64 x) (by unfold icells; simp [hx])
    rw [addr_add] at this
    exact this

/-- The number of the j-th six bytes. -/
def nAt (l : List UInt8) (j : Nat) : Int := numL 0 ((l.drop (6 * j)).take 6)
def unF (l : List UInt8) (j : Nat) : List Int := (List.range j).map (nAt l)
theorem unF_len (l : List UInt8) (j : Nat) : (unF l j).length = j := by simp [unF]
theorem unF_succ (l : List UInt8) (j : Nat) : unF l (j + 1) = unF l j ++ [nAt l j] := by simp [unF, List.range_succ]

open Classical in
/-- What Unpack answers of n times six bytes. -/
def UPost (l : List UInt8) (n : Nat) (err ok : Value) (w : World) (e : Ending) (w' : World) : Prop :=
  ∃ v, e = .returned (.tuple #[v, if ∀ j, j < n → pk (nAt l j) then ok else err]) ∧ Ints w' v (if ∀ j, j < n → pk (nAt l j) then unF l n else []) ∧ Below w.heap.size w w'
theorem upost_ok {l : List UInt8} {n : Nat} {err ok v : Value} {w w' : World} (h : ∀ j, j < n → pk (nAt l j)) (hi : Ints w' v (unF l n)) (hb : Below w.heap.size w w') : UPost l n err ok w (.returned (.tuple #[v, ok])) w' :=
  ⟨v, by rw [if_pos h], by rw [if_pos h]; exact hi, hb⟩
theorem ints_nil (w : World) : Ints w (.slice none 0 0) [] := ⟨none, 0, rfl, by simp, fun j x hx => by simp at hx⟩
theorem upost_no {l : List UInt8} {n j : Nat} {err ok : Value} {w w' : World} (hj : j < n) (h : ¬ pk (nAt l j)) (hb : Below w.heap.size w w') : UPost l n err ok w (.returned (.tuple #[.slice none 0 0, err])) w' :=
  ⟨_, by rw [if_neg fun k => h (k j hj)], by rw [if_neg fun k => h (k j hj)]; exact ints_nil _, hb⟩

def strSz : Value → Nat
  | .string b => b.size
  | _ => 0

theorem unpack_long (s : ByteArray) (w : World) (hs : 24576 < s.size) (hm : s.size ≤ 9223372036854775807) :
    Calls Tryd.prog 29 #[.string s] w fun e w' => e = .returned (.tuple #[.slice none 0 0, .iface 54 (.int .i64 3)]) ∧ Below w.heap.size w w' := by
  go_enter Tryd.func29, Tryd.ntmps29
  go_wp2_with fail
  go_ret2
  exact ⟨rfl, Below.refl _ _⟩
theorem unpack_form (s : ByteArray) (w : World) (hs : s.size ≤ 24576) (h6 : s.size % 6 ≠ 0) :
    Calls Tryd.prog 29 #[.string s] w fun e w' => e = .returned (.tuple #[.slice none 0 0, .iface 54 (.int .i64 4)]) ∧ Below w.heap.size w w' := by
  have h6' : ((s.size : Int) % 6 != 0) = true := by rw [bne_iff_ne]; omega
  clear h6
  go_enter Tryd.func29, Tryd.ntmps29
  go_wp2_with fail
  go_ret2
  exact ⟨rfl, Below.refl _ _⟩

set_option maxHeartbeats 4000000 in
set_option maxRecDepth 100000 in
theorem unpack_any (s : ByteArray) (n : Nat) (w : World) (hs : s.size ≤ 24576) (hn : s.size = 6 * n) :
    Calls Tryd.prog 29 #[.string s] w (UPost s.data.toList n (.iface 54 (.int .i64 20)) .nilIface w) := by
  obtain ⟨i0, hi, hz0, hz1, hz2⟩ := info_parts Tryd.info22
  have h6 : ((s.size : Int) % 6 != 0) = false := by rw [bne_eq_false_iff_eq]; omega
  have h7 : (s.size : Int) / 6 = (n : Int) := by omega
  have hn2 : n ≤ 4096 := by omega
  have HN := Lib.hid hn
  clear hn
  go_enter Tryd.func29, Tryd.ntmps29
  go_wp2_with (at_make; refine wpList_make_own _ rfl _ _ 40 rfl w.heap.size 22 i0 (.int .i64 0) 1 Tryd.underlying40 hi hz0 hz1 .i64 .i64 _ n rfl rfl (by first | rfl | omega) (by rw [hz2]; omega) (by unfold maxLen; omega) (Nat.le_refl _) ?_; intro w0 hown0 hgrow0)
  have hb0 : Below w.heap.size w w0 := (Below.refl _ _).grown hgrow0 (Nat.le_refl _) (by simp)
  have HO := Lib.hid (show OwnI 22 w.heap.size w0 (.slice (some ⟨w.heap.size, 0, none⟩) 0 n) (unF s.data.toList 0) from hown0)
  clear hown0 hgrow0 h7
  go_loopw [0, 4] (fun sv v wr => ∃ (j : Nat) (t : ByteArray) (p : Option Addr) (cap : Nat), j ≤ n ∧ sv = .string t ∧ Hid (t.data.toList = s.data.toList.drop (6 * j)) ∧ t.size ≤ 24576 ∧ Hid (t.size + 6 * j = 6 * n) ∧ v = .slice p j cap ∧
      Hid (OwnI 22 w.heap.size wr (.slice p j cap) (unF s.data.toList j)) ∧ Hid (∀ i, i < j → pk (nAt s.data.toList i)) ∧ Below w.heap.size w wr) (fun sv _ _ => strSz sv)
  case atStart => exact ⟨0, s, _, _, Nat.zero_le _, rfl, Lib.hid rfl, hs, Lib.hid (by have := HN.out; omega), rfl, HO, Lib.hid (fun i k => by omega), hb0⟩
  case round =>
    obtain ⟨j, t, p, cap, hj, rfl, HT, hts, HTS, rfl, HX, HP, hb⟩ := hrel
    have htl : t.data.toList.length = t.size := Array.length_toList
    by_cases hlt : j < n
    · have h6t : 6 ≤ t.size := by have := HTS.out; omega
      have hte : t.toList.isEmpty = false := by
        rw [Lib.toList_data]
        cases h : t.data.toList with
        | nil => rw [h] at htl; simp at htl; omega
        | cons c r => rfl
      have e1 : (t.extract 0 6).data.toList = (s.data.toList.drop (6 * j)).take 6 := by rw [extract_list, HT.out]; simp
      have hx6 : (t.extract 0 6).size ≤ 6 := by
        have : (t.extract 0 6).data.toList.length = (t.extract 0 6).size := Array.length_toList
        rw [e1, List.length_take] at this; omega
      have hnum := number_any (t.extract 0 6) hx6
      rw [e1] at hnum
      have HNUM := Lib.hid (show ∀ w, Calls Tryd.prog 41 #[.string (t.extract 0 6)] w fun e w' => e = .returned (.int .i64 (nAt s.data.toList j)) ∧ w = w' from hnum)
      have e2 : (t.extract 6 t.size).data.toList = s.data.toList.drop (6 * (j + 1)) := by
        rw [extract_list, List.take_of_length_le (show t.data.toList.length ≤ t.size from Nat.le_of_eq htl), HT.out, List.drop_drop]
        congr 1
      have e3 : (t.extract 6 t.size).size + 6 * (j + 1) = 6 * n := by
        have : (t.extract 6 t.size).data.toList.length = (t.extract 6 t.size).size := Array.length_toList
        rw [extract_list, List.length_drop, List.take_of_length_le (show t.data.toList.length ≤ t.size from Nat.le_of_eq htl), htl] at this
        have h2 := HTS.out
        omega
      have hsz : (t.extract 6 t.size).size ≤ 24576 := by omega
      have hsz2 : (t.extract 6 t.size).size < t.size := by have h2 := HTS.out; omega
      have HE2 := Lib.hid e2
      have HE3 := Lib.hid e3
      clear e1 e2 e3 hnum hx6 htl
      by_cases hpk : pk (nAt s.data.toList j)
      · have HK := Lib.hid (packs_yes _ hpk)
        go_wp2_with fail
        refine (HNUM.out _).mono ?_
        rintro e w1 ⟨rfl, rfl⟩
        go_wp2_with fail
        refine (HK.out _).mono ?_
        rintro e w1 ⟨rfl, rfl⟩
        go_wp2_with (at_builtin; refine wpList_append_own _ rfl _ _ 40 rfl w.heap.size 22 i0 (.int .i64 0) 1 8 Tryd.underlying40 hi hz0 hz1 hz2 rfl (by decide) _ _ _ rfl (HX.out.alloc _) ⟨wr.heap.size, 0, none⟩ 1 1 [.int .i64 (nAt s.data.toList j)] rfl rfl ?a1 ?a2 ?a3 ?a4 ?a5 ?_)
        case a1 =>
          intro k x hk
          match k, hk with
          | 0, hk => simp at hk; subst hk; simp [Addr.add]
        case a2 => intro x hx; simp at hx; subst hx; rfl
        case a3 => rw [unF_len]; unfold maxLen; omega
        case a4 => rw [unF_len]; omega
        case a5 => have := hb.size; simp; omega
        intro v' w2 hown' hgrow _
        have hown3 := ownI_next _ hown'
        rw [← unF_succ] at hown3
        have hb3 : Below w.heap.size w w2 := (hb.alloc hb.size _).grown hgrow (by have := hb.size; simp; omega) fun k hk => (HX.out.lt k hk).1
        clear hown' hgrow hb
        obtain ⟨p', cap', rfl⟩ := ownI_shape0 hown3
        rw [unF_len] at hown3
        have HO' := Lib.hid hown3
        have HP' := Lib.hid (show ∀ i, i < j + 1 → pk (nAt s.data.toList i) from fun i hi => by
          by_cases h : i < j
          · exact HP.out i h
          · obtain rfl : i = j := by omega
            exact hpk)
        clear hown3 hpk
        go_wp2_with fail
        go_roundw
        case rel => exact ⟨j + 1, _, p', cap', by omega, rfl, HE2, hsz, HE3, by rw [unF_len], HO', HP', hb3⟩
        case measure => simp [strSz]; omega
      · have HK := Lib.hid (packs_no _ hpk)
        have HNP := Lib.hid hpk
        clear hpk
        go_wp2_with fail
        refine (HNUM.out _).mono ?_
        rintro e w1 ⟨rfl, rfl⟩
        go_wp2_with fail
        refine (HK.out _).mono ?_
        rintro e w1 ⟨rfl, rfl⟩
        go_wp2_with fail
        go_ret2
        exact upost_no hlt HNP.out hb
    · have hjn : j = n := by omega
      have hte : t.toList.isEmpty = true := by
        have h2 := HTS.out
        have : t.size = 0 := by omega
        rw [Lib.toList_data]
        cases h : t.data.toList with
        | nil => rfl
        | cons c r => rw [h] at htl; simp at htl; omega
      have HX2 : Ints wr (.slice p j cap) (unF s.data.toList n) := by rw [← hjn]; exact ownI_ints HX.out (by rw [unF_len]; omega)
      have HI := Lib.hid HX2
      have HP2 := Lib.hid (show ∀ i, i < n → pk (nAt s.data.toList i) from by rw [← hjn]; exact HP.out)
      clear htl hjn HX2
      go_wp2_with fail
      go_ret2
      exact upost_ok HP2.out HI.out hb
end Go.Proofs.YtokplbfjpabolaaDoor
