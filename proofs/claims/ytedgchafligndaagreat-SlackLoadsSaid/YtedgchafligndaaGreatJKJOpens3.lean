/- What comes in opened to cells: a slice of numbers, of bools; no condition but those that each row names. -/
import Derived.Test.YtedgchafligndaaGreatJKJOpens
import Derived.Test.YtedgchafligndaaGreatJKUOpenT
import Derived.Lib.SmallJoins
namespace Go.Proofs.YtedgchafligndaaGreat
open Go.ChangeShapes Go.WideShapes Go.RowKit Go.ChangeMaps Go.Deep Go.Joins

theorem cellsBz : Tryz.prog.cellsOf 4 = 1 := by kernel_rfl
section
variable {H : Type} {enc : TypeId × Value → H} {w : World} {spare : Nat → Bool} {held : Bool}

set_option maxRecDepth 100000 in
theorem open_nums {fuel : Nat} {v : Value} {x : DataW H × List MemPlace} (h : DataW.trod enc Tryz.prog w 0 spare held fuel 22 [v] = some x) : ∃ l, Lst (fun _ => False) w v (ints l) := by
  rcases open_slice Tryz.underlying22 h with ⟨hc, _⟩ | ⟨a, len, cap, m, n, D, Pl, hcs, _, hl, hm, hmm, _, hi⟩
  · simp at hc
    subst hc
    exact ⟨[], Lst.nil _ _⟩
  · simp at hcs
    subst hcs
    have hlm : len ≤ m := by rw [hmm]; split <;> omega
    have hel : ∀ i, i < len → ∃ q : Int, w.cell? (a.add i) = some (.int .i64 q) := fun i hil => by
      obtain ⟨cs', hc, ht⟩ := hi i (by omega)
      rw [cellsIntz] at hc
      obtain ⟨_, hcl, hat⟩ := World.cells?_some hc
      match cs', hcl with
      | [u0], _ =>
        obtain ⟨z0, e0, _, _⟩ := DataW.trod_int Tryz.underlying3 ht
        simp at e0
        subst e0
        have h0 := hat 0 (by simp)
        simp only [List.getElem?_cons_zero] at h0
        exact ⟨z0, by simpa [Addr.add] using h0⟩
    have hpl : ∀ i, i < len → ∃ b off, a = ⟨b, off, none⟩ := fun i hil => by
      obtain ⟨q, hq⟩ := hel 0 (by omega)
      exact plain_addrz (by simpa [Addr.add] using hq)
    refine ⟨(List.range len).map fun i => if hil : i < len then Classical.choose (hel i hil) else 0, some a, cap, by simp [ints], by simp [ints]; unfold maxLen at hm; omega, fun j x hj => ?_⟩
    have hjl : j < len := by
      have := (List.getElem?_eq_some_iff.1 hj).1
      simpa [ints] using this
    unfold ints at hj
    rw [List.getElem?_map, List.getElem?_map, List.getElem?_range hjl] at hj
    simp only [Option.map_some, dif_pos hjl, Option.some.injEq] at hj
    obtain ⟨b, off, ha⟩ := hpl j hjl
    have hc := Classical.choose_spec (hel j hjl)
    rw [hj] at hc
    subst ha
    rw [addr_plus] at hc
    exact ⟨b, off, rfl, fun k => k, hc⟩

set_option maxRecDepth 100000 in
theorem open_flags {fuel : Nat} {v : Value} {x : DataW H × List MemPlace} (h : DataW.trod enc Tryz.prog w 0 spare held fuel 23 [v] = some x) : ∃ l, Lst (fun _ => False) w v (bools l) := by
  rcases open_slice Tryz.underlying23 h with ⟨hc, _⟩ | ⟨a, len, cap, m, n, D, Pl, hcs, _, hl, hm, hmm, _, hi⟩
  · simp at hc
    subst hc
    exact ⟨[], Lst.nil _ _⟩
  · simp at hcs
    subst hcs
    have hlm : len ≤ m := by rw [hmm]; split <;> omega
    have hel : ∀ i, i < len → ∃ q : Bool, w.cell? (a.add i) = some (.bool q) := fun i hil => by
      obtain ⟨cs', hc, ht⟩ := hi i (by omega)
      rw [cellsBz] at hc
      obtain ⟨_, hcl, hat⟩ := World.cells?_some hc
      match cs', hcl with
      | [u0], _ =>
        obtain ⟨z0, e0, _⟩ := DataW.trod_bool Tryz.underlying4 ht
        simp at e0
        subst e0
        have h0 := hat 0 (by simp)
        simp only [List.getElem?_cons_zero] at h0
        exact ⟨z0, by simpa [Addr.add] using h0⟩
    have hpl : ∀ i, i < len → ∃ b off, a = ⟨b, off, none⟩ := fun i hil => by
      obtain ⟨q, hq⟩ := hel 0 (by omega)
      exact plain_addrz (by simpa [Addr.add] using hq)
    refine ⟨(List.range len).map fun i => if hil : i < len then Classical.choose (hel i hil) else false, some a, cap, by simp [bools], by simp [bools]; unfold maxLen at hm; omega, fun j x hj => ?_⟩
    have hjl : j < len := by
      have := (List.getElem?_eq_some_iff.1 hj).1
      simpa [bools] using this
    unfold bools at hj
    rw [List.getElem?_map, List.getElem?_map, List.getElem?_range hjl] at hj
    simp only [Option.map_some, dif_pos hjl, Option.some.injEq] at hj
    obtain ⟨b, off, ha⟩ := hpl j hjl
    have hc := Classical.choose_spec (hel j hjl)
    rw [hj] at hc
    subst ha
    rw [addr_plus] at hc
    exact ⟨b, off, rfl, fun k => k, hc⟩
set_option maxRecDepth 100000 in
theorem nums_bound {fj : Nat} {sv : Value} {dJ : DataW H} {PJ : List MemPlace} (hs : DataW.trod enc Tryz.prog w 0 spare held fj 22 [sv] = some (dJ, PJ)) (hw : ∀ m ∈ dJ.weights Tryz.prog 22, m ≤ reachBytes) : ∀ p n c, sv = .slice p n c → n * 8 ≤ 140737488355328 := by
  intro p n c e
  subst e
  rcases open_slice Tryz.underlying22 hs with ⟨hc, _⟩ | ⟨a, len, cap, m, n', D, Pl, hcs, _, hl, hm, hmm, hx, _⟩
  · simp at hc; omega
  · simp at hcs
    obtain ⟨_, rfl, _⟩ := hcs
    have hd : dJ = .slice ((List.range n).map D) ((List.range (m - n)).map fun j => D (n + j)) := congrArg Prod.fst hx
    have h1 := hw ((n + (m - n)) * Tryz.prog.bytesOf 3) (by rw [hd]; simp [DataW.weights, Tryz.underlying22])
    rw [show Tryz.prog.bytesOf 3 = 8 from by kernel_rfl] at h1
    have hrb := reachBytes_lt
    have e47 : (2 : Nat) ^ 47 = 140737488355328 := by decide
    rw [e47] at hrb
    omega
set_option maxRecDepth 100000 in
theorem flags_bound {fj : Nat} {sv : Value} {dJ : DataW H} {PJ : List MemPlace} (hs : DataW.trod enc Tryz.prog w 0 spare held fj 23 [sv] = some (dJ, PJ)) (hw : ∀ m ∈ dJ.weights Tryz.prog 23, m ≤ reachBytes) : ∀ p n c, sv = .slice p n c → n * 1 ≤ 140737488355328 := by
  intro p n c e
  subst e
  rcases open_slice Tryz.underlying23 hs with ⟨hc, _⟩ | ⟨a, len, cap, m, n', D, Pl, hcs, _, hl, hm, hmm, hx, _⟩
  · simp at hc; omega
  · simp at hcs
    obtain ⟨_, rfl, _⟩ := hcs
    have hd : dJ = .slice ((List.range n).map D) ((List.range (m - n)).map fun j => D (n + j)) := congrArg Prod.fst hx
    have h1 := hw ((n + (m - n)) * Tryz.prog.bytesOf 4) (by rw [hd]; simp [DataW.weights, Tryz.underlying23])
    rw [show Tryz.prog.bytesOf 4 = 1 from by kernel_rfl] at h1
    have hrb := reachBytes_lt
    have e47 : (2 : Nat) ^ 47 = 140737488355328 := by decide
    rw [e47] at hrb
    omega
end
end Go.Proofs.YtedgchafligndaaGreat
