/- strconv.Itoa from 0 on, at this program; what the rows' listed variables give; no condition but what these hold. -/
import Derived.Test.YtpfhebfkhailfaaDoorShelf
import Derived.Test.YtpfhebfkhailfaaDoorUVal
import Derived.Test.YtpfhebfkhailfaaDoorQDig
import Derived.Lib.Walk
namespace Go.Proofs.YtpfhebfkhailfaaDoor
open Go.RowKit Tsk

theorem var_below {P : Program} {w w' : World} {n : String} {cs : Array Value} (h : w.var? P n = some cs) (hb : Below w.heap.size w w') : w'.var? P n = some cs := by
  unfold World.var? at *
  cases hg : P.globalNamed n with
  | none => rw [hg] at h; simp at h
  | some g =>
    rw [hg] at h
    simp only [Option.bind_some] at h ⊢
    have hlt : g < w.heap.size := by
      rcases Nat.lt_or_ge g w.heap.size with h' | h'
      · exact h'
      · rw [Array.getElem?_eq_none h'] at h; simp at h
    rw [hb.block g hlt]
    exact h
/-- What the listed variables hold, as the library's calls ask it. -/
structure LaidAt (w : World) : Prop where
  tab : Lib.TabIs Tryd.prog w "internal/strconv.uint64pow10" .u64 Lib.pow10Tab
theorem LaidAt.below {w w' : World} (h : LaidAt w) (hb : Below w.heap.size w w') : LaidAt w' := ⟨var_below h.tab hb⟩
theorem below_grow (w : World) (k : Nat) (os : Array Obj) : Below w.heap.size w (Sort.grow (w.drewN k) os) :=
  ⟨rfl, rfl, rfl, by simp, fun b hb => by rw [Sort.heap_grow_old _ _ (by simpa using hb)]; simp⟩
theorem itoa_any (n : Int) (h0 : 0 ≤ n) (hn : n ≤ 2147483647) (w : World) (hg : LaidAt w) :
    Calls Tryd.prog 41 #[.int .i64 n] w fun e w' => e = .returned (.string ⟨(dgL n).toArray⟩) ∧ Below w.heap.size w w' := by
  refine (Tryd.strconv_Itoa n (by omega) (by omega) w hg.tab).mono ?_
  rintro e w' ⟨rfl, k, os, rfl⟩
  refine ⟨?_, below_grow w k os⟩
  unfold Lib.itoa dgL
  rw [if_neg (by omega)]
end Go.Proofs.YtpfhebfkhailfaaDoor
