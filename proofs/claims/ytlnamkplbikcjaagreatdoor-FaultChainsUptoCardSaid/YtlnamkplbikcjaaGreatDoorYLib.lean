/- What the rows' listed variables give: the table of powers, the names of the operations, the type error's handle; strconv.Itoa at every int; no condition but what these hold. -/
import Derived.Test.YtlnamkplbikcjaaGreatDoorShelf
import Derived.Test.YtlnamkplbikcjaaGreatDoorHParts
import Derived.Test.YtlnamkplbikcjaaGreatDoorYMath
import Derived.BigCall
import Derived.Lib.Walk
namespace Go.Proofs.YtlnamkplbikcjaaGreatDoor
open Go.RowKit

theorem var_below {P : Program} {w w' : World} {n : String} {cs : Array Value} (h : w.var? P n = some cs) (hb : Below w.heap.size w w') : w'.var? P n = some cs := by
  unfold World.var? at *
  cases hg : P.globalNamed n with
  | none => rw [hg] at h; simp at h
  | some g =>
    rw [hg] at h
    simp only [Option.bind_some] at h ⊢
    have hlt : g < w.heap.size := by
      rcases Nat.lt_or_ge g w.heap.size with h' | h'
      · exact h'
      · rw [Array.getElem?_eq_none h'] at h; simp at h
    rw [hb.block g hlt]
    exact h
/-- What the listed variables hold, as the calls ask it. -/
structure LaidAt (w : World) : Prop where
  tab : Lib.TabIs Tryz.prog w "internal/strconv.uint64pow10" .u64 Lib.pow10Tab
  ops : ∀ i, i < 10 → w.cell? ⟨1, i, none⟩ = some (.string ⟨(Ft.ops.getD i []).toArray⟩)
  err : w.cell? ⟨0, 0, none⟩ = some (.iface 81 (.agg #[.pointer (some ⟨5, 29, none⟩)]))
theorem cell_blk {w : World} {a : Addr} {v : Value} (h : w.cell? a = some v) : a.block < w.heap.size := by
  rcases Nat.lt_or_ge a.block w.heap.size with h' | h'
  · exact h'
  · simp [World.cell?, Array.getElem?_eq_none h'] at h
theorem LaidAt.below {w w' : World} (h : LaidAt w) (hb : Below w.heap.size w w') : LaidAt w' := by
  refine ⟨var_below h.tab hb, fun i hi => ?_, ?_⟩
  · rw [hb.cell (p := ⟨1, i, none⟩) (cell_blk (h.ops i hi))]; exact h.ops i hi
  · rw [hb.cell (p := ⟨0, 0, none⟩) (cell_blk h.err)]; exact h.err
theorem below_grow (w : World) (k : Nat) (os : Array Obj) : Below w.heap.size w (Sort.grow (w.drewN k) os) :=
  ⟨rfl, rfl, rfl, by simp, fun b hb => by rw [Sort.heap_grow_old _ _ (by simpa using hb)]; simp⟩
theorem itoa_i (n : Int) (hn : I64 n) (w : World) (hg : LaidAt w) :
    Calls Tryz.prog 41 #[.int .i64 n] w fun e w' => e = .returned (.string ⟨(Lib.itoa n).toArray⟩) ∧ Below w.heap.size w w' := by
  refine (Tryz.strconv_Itoa n hn.1 hn.2 w hg.tab).mono ?_
  rintro e w' ⟨rfl, k, os, rfl⟩
  exact ⟨rfl, below_grow w k os⟩
theorem itoa_any (n : Nat) (hn : n ≤ 9223372036854775807) (w : World) (hg : LaidAt w) :
    Calls Tryz.prog 41 #[.int .i64 n] w fun e w' => e = .returned (.string ⟨(Lib.decDigits n).toArray⟩) ∧ Below w.heap.size w w' := by
  refine (itoa_i n ⟨by omega, by omega⟩ w hg).mono ?_
  rintro e w' ⟨rfl, hb⟩
  refine ⟨?_, hb⟩
  unfold Lib.itoa
  rw [if_neg (by omega), Int.toNat_natCast]
theorem ba_of_list {s : ByteArray} {l : List UInt8} (h : s.data.toList = l) : s = ⟨l.toArray⟩ := by
  subst h
  simp
theorem list_of_ba (l : List UInt8) : (⟨l.toArray⟩ : ByteArray).data.toList = l := by simp
/-- The length of a number's digits. -/
theorem dec_len20 (n : Nat) (h : n ≤ 9223372036854775808) : (Lib.decDigits n).length ≤ 19 := by
  rw [Lib.decDigits_length]; exact nDigits_le 19 n (by omega) (by omega)
theorem itoa_len (n : Int) (h : I64 n) : (Lib.itoa n).length ≤ 20 := by
  unfold I64 at h
  unfold Lib.itoa
  split
  · simp only [List.length_cons]; have := dec_len20 n.natAbs (by omega); omega
  · have := dec_len20 n.toNat (by omega); omega
end Go.Proofs.YtlnamkplbikcjaaGreatDoor
