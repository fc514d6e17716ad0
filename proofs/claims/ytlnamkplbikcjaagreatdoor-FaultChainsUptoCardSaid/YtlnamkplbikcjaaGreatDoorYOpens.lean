/- What comes in opened to cells: a slice of numbers; no condition. -/
import Derived.Test.YtlnamkplbikcjaaGreatDoorYRow
import Derived.OpenShut
import Derived.Deep.Slices
import Derived.ChangeSame
import Derived.ChangeMaps5
import Derived.SizedLaws
import Derived.Lib.SmallJoins
namespace Go.Proofs.YtlnamkplbikcjaaGreatDoor
open Go.ChangeShapes Go.WideShapes Go.RowKit Go.ChangeMaps Go.Deep

theorem laidOut : laidOutB Tryz.prog = true := by kernel_rfl
theorem cellsInt : Tryz.prog.cellsOf 3 = 1 := by kernel_rfl
theorem plain_addr {w : World} {a : Addr} {v : Value} (h : w.cell? a = some v) : ∃ b off, a = ⟨b, off, none⟩ := by
  obtain ⟨b, off, spot⟩ := a
  have hs : spot = none := World.cell?_spot h
  subst hs
  exact ⟨b, off, rfl⟩

section
variable {H : Type} {enc : TypeId × Value → H} {w : World} {spare : Nat → Bool} {held : Bool}
theorem weights_all {P : Program} {e : TypeId} : ∀ {l : List (DataW H)} {d : DataW H}, d ∈ l → ∀ n ∈ d.weights P e, n ∈ DataW.weightsAll P e l
  | [], _, h, _, _ => by cases h
  | d0 :: l, d, h, n, hn => by
    simp only [DataW.weightsAll, List.mem_append]
    rcases List.mem_cons.1 h with rfl | h
    · exact .inl hn
    · exact .inr (weights_all h n hn)
set_option maxRecDepth 100000 in
/-- A slice of numbers. -/
theorem open_ints {fuel : Nat} {v : Value} {x : DataW H × List MemPlace} (h : DataW.trod enc Tryz.prog w 0 spare held fuel 98 [v] = some x) (hw : ∀ m ∈ x.1.weights Tryz.prog 98, m ≤ reachBytes) :
    ∃ n f, Nums w v n f ∧ (∀ i, i < n → I64 (f i)) ∧ n * 8 ≤ 140737488355328 := by
  rcases open_slice Tryz.underlying98 h with ⟨hc, _⟩ | ⟨a, len, cap, m, n, D, Pl, hcs, _, hl, hm, hmm, hx, hi⟩
  · simp at hc
    subst hc
    exact ⟨0, fun _ => 0, ⟨none, 0, rfl, by omega, fun j hj => by omega⟩, fun j hj => by omega, by omega⟩
  · simp at hcs
    subst hcs
    have hlm : len ≤ m := by rw [hmm]; split <;> omega
    have hrb := reachBytes_lt
    have e47 : (2 : Nat) ^ 47 = 140737488355328 := by decide
    rw [e47] at hrb
    have hd : x.1 = .slice ((List.range len).map D) ((List.range (m - len)).map fun j => D (len + j)) := congrArg Prod.fst hx
    have hbytes : len * 8 ≤ 140737488355328 := by
      have h1 := hw ((len + (m - len)) * Tryz.prog.bytesOf 3) (by rw [hd]; simp [DataW.weights, Tryz.underlying98])
      rw [show Tryz.prog.bytesOf 3 = 8 from by kernel_rfl] at h1
      omega
    have hpl : 0 < len → ∃ b off, a = ⟨b, off, none⟩ := fun h0 => by
      obtain ⟨cs', hc, _⟩ := hi 0 (by omega)
      rw [cellsInt] at hc
      obtain ⟨_, hcl, hat⟩ := World.cells?_some hc
      match cs', hcl with
      | [u0], _ =>
        have h0 := hat 0 (by simp)
        simp only [List.getElem?_cons_zero] at h0
        exact plain_addr (by simpa [Addr.add] using h0)
    have hel : ∀ i, i < len → ∃ q : Int, (∃ b off, a = ⟨b, off, none⟩ ∧ w.cell? ⟨b, off + i, none⟩ = some (.int .i64 q)) ∧ I64 q := fun i hil => by
      obtain ⟨cs', hc, ht⟩ := hi i (by omega)
      rw [cellsInt] at hc
      obtain ⟨_, hcl, hat⟩ := World.cells?_some hc
      match cs', hcl with
      | [u0], _ =>
        obtain ⟨z0, e0, _, w0⟩ := DataW.trod_int Tryz.underlying3 ht
        simp at e0
        subst e0
        have h0 := hat 0 (by simp)
        simp only [add_add, List.getElem?_cons_zero] at h0
        obtain ⟨b, off, rfl⟩ := hpl (by omega)
        rw [addr_plus] at h0
        exact ⟨z0, ⟨b, off, rfl, by simpa using h0⟩, bounds_i64 w0⟩
    refine ⟨len, fun i => if hil : i < len then Classical.choose (hel i hil) else 0, ⟨some a, cap, rfl, by unfold maxLen at hm; omega, fun j hj => ?_⟩, fun j hj => ?_, hbytes⟩
    · obtain ⟨b, off, ha, c⟩ := (Classical.choose_spec (hel j hj)).1
      refine ⟨b, off, by rw [ha], ?_⟩
      simp only [dif_pos hj]
      exact c
    · simp only [dif_pos hj]
      exact (Classical.choose_spec (hel j hj)).2
end
end Go.Proofs.YtlnamkplbikcjaaGreatDoor
