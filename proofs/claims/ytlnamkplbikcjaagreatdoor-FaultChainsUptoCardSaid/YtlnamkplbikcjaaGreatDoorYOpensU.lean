/- An error of the laws that comes in, opened to a tree, and how many letters its texts have at most: no more than what the reading holds; no condition. -/
import Derived.Test.YtlnamkplbikcjaaGreatDoorYOpens
import Derived.Test.YtlnamkplbikcjaaGreatDoorYTextL
import Derived.Test.YtlnamkplbikcjaaGreatDoorYMany
import Derived.Test.YtlnamkplbikcjaaGreatDoorRows
namespace Go.Proofs.YtlnamkplbikcjaaGreatDoor
open Go.ChangeShapes Go.WideShapes Go.RowKit Go.ChangeMaps Go.Deep Ft

theorem name_len (n : Int) : (nameL n).length ≤ 8 := by
  unfold nameL
  cases h : names.find? (fun x => x.1 == n) with
  | none => simp
  | some x =>
    have hm := List.mem_of_find?_eq_some h
    have hall : ∀ y ∈ names, y.2.length ≤ 8 := by decide
    exact hall x hm
theorem all_mem {H : Type} {d : DataW H} : ∀ {l : List (DataW H)} (_h : d ∈ l), Rows.uptoBulk d ≤ Rows.uptoBulkAll l := by
  intro l
  induction l with
  | nil => intro h; cases h
  | cons x r ih =>
    intro h
    simp only [Rows.uptoBulkAll]
    rcases List.mem_cons.1 h with rfl | h
    · omega
    · have := ih h; omega
theorem all_two {H : Type} (l : List (DataW H)) (h1 : 1 < l.length) : Rows.uptoBulk l[0] + Rows.uptoBulk l[1] ≤ Rows.uptoBulkAll l := by
  match l, h1 with
  | x :: y :: r, _ => simp only [Rows.uptoBulkAll, List.getElem_cons_zero, List.getElem_cons_succ]; omega
namespace Ft
/-- How many letters its texts have. -/
def Dt.tx : Dt → Nat
  | .nil => 0
  | .mk _ _ _ _ t m a b => t.size + (if 0 < m then a.tx else 0) + (if 1 < m then b.tx else 0)
theorem Dt.txt_le (said : Bool) : ∀ (d : Dt), d.ok → (d.toE.txt said).length ≤ 64 * d.sz + d.tx := by
  intro d
  induction d with
  | nil => intro _; simp [Dt.toE, Er.txt]
  | mk k op h n t m a b iha ihb =>
    intro hok
    have oop := itoa_len op hok.2.1
    have oh := itoa_len h hok.2.2.1
    have on := itoa_len n hok.2.2.2.1
    have hA : (Er.txt said (if 0 < m then a.toE else .nil)).length ≤ 64 * (if 0 < m then a.sz else 0) + (if 0 < m then a.tx else 0) := by
      by_cases hm : 0 < m
      · rw [if_pos hm, if_pos hm, if_pos hm]; exact iha hok.2.2.2.2.1
      · rw [if_neg hm, if_neg hm, if_neg hm]; simp [Er.txt]
    have hB : (Er.txt said (if 1 < m then b.toE else .nil)).length ≤ 64 * (if 1 < m then b.sz else 0) + (if 1 < m then b.tx else 0) := by
      by_cases hm : 1 < m
      · rw [if_pos hm, if_pos hm, if_pos hm]; exact ihb hok.2.2.2.2.2
      · rw [if_neg hm, if_neg hm, if_neg hm]; simp [Er.txt]
    simp only [Dt.toE, Dt.sz, Dt.tx]
    generalize (if 0 < m then a.toE else Er.nil) = X at *
    generalize (if 1 < m then b.toE else Er.nil) = Y at *
    generalize (if 0 < m then a.sz else 0) = sa at *
    generalize (if 1 < m then b.sz else 0) = sb at *
    generalize (if 0 < m then a.tx else 0) = ta at *
    generalize (if 1 < m then b.tx else 0) = tb at *
    have l1 := opL_lenR op oop
    have l2 := toldL_lenR h oh
    have lf : (fltL op h).length ≤ 58 := by unfold fltL; simp only [List.length_append, List.length_cons, List.length_nil]; omega
    have lp : (plcL n).length ≤ 27 := by unfold plcL; simp only [List.length_append, List.length_cons, List.length_nil]; omega
    have ln : (nbrL said n).length ≤ 26 := by
      unfold nbrL
      split
      · exact Nat.le_trans (name_len n) (by decide)
      · unfold errL; simp only [List.length_append, List.length_cons, List.length_nil]; omega
    have ht : t.data.toList.length = t.size := by rw [Array.length_toList]; rfl
    repeat' split
    all_goals simp only [Er.txt, List.length_append, List.length_cons, List.length_nil]
    all_goals omega
end Ft
theorem cellsHan : Tryz.prog.cellsOf 22 = 1 := by kernel_rfl
theorem cellsStrE : Tryz.prog.cellsOf 9 = 1 := by kernel_rfl
theorem cellsErrs : Tryz.prog.cellsOf 23 = 1 := by kernel_rfl
theorem cellsErr : Tryz.prog.cellsOf 25 = 6 := by kernel_rfl
section
variable {H : Type} {enc : TypeId × Value → H} {w : World} {spare : Nat → Bool} {held : Bool}
set_option maxRecDepth 100000 in
theorem open_errU_cells : ∀ (fuel : Nat) (cs : List Value) (x : DataW H × List MemPlace), cs.length = 6 → DataW.trod enc Tryz.prog w 0 spare held fuel 25 cs = some x →
    ∃ d : Dt, d.ok ∧ DV w d (.agg cs.toArray) ∧ d.tx ≤ Rows.uptoBulk x.1 := by
  intro fuel
  induction fuel using Nat.strongRecOn with
  | _ fuel ih =>
  intro cs x hcs h
  obtain ⟨xs, fj, hfj, hx, _, hlen, hg⟩ := DataW.trod_struct Tryz.underlying25 h
  match cs, hcs with
  | [c0, c1, c2, c3, c4, c5], _ =>
    match xs, hlen with
    | [y0, y1, y2, y3, y4, y5], _ =>
      have h0 := hg 0 _ rfl
      have h1 := hg 1 _ rfl
      have h2 := hg 2 _ rfl
      have h3 := hg 3 _ rfl
      have h4 := hg 4 _ rfl
      have h5 := hg 5 _ rfl
      simp [cellsInt, cellsHan, cellsStrE, cellsErrs] at h0 h1 h2 h3 h4 h5
      obtain ⟨k0, u0, _, w0⟩ := DataW.trod_int Tryz.underlying3 h0
      obtain ⟨k1, u1, _, w1⟩ := DataW.trod_int Tryz.underlying3 h1
      obtain ⟨k2, u2, _, w2⟩ := DataW.trod_int Tryz.underlying22 h2
      obtain ⟨k3, u3, _, w3⟩ := DataW.trod_int Tryz.underlying3 h3
      obtain ⟨s, u4, v4, _⟩ := DataW.trod_string Tryz.underlying9 h4
      simp at u0 u1 u2 u3 u4
      subst u0 u1 u2 u3 u4
      have hbk : s.size + 1 + Rows.uptoBulk y5.1 ≤ Rows.uptoBulk x.1 := by
        rw [hx, v4]
        simp only [List.map_cons, List.map_nil, Rows.uptoBulk, Rows.uptoBulkAll]
        have : s.data.toList.length = s.size := by rw [Array.length_toList]; rfl
        omega
      rcases DataW.trod_slice Tryz.underlying23 h5 with ⟨hc, _⟩ | ⟨a, len, cap, elems, rest, n2, hn2, hcs, hy5, _, hlc, hcm, hel, hi, _⟩
      · simp at hc
        subst hc
        exact ⟨.mk k0 k1 k2 k3 s 0 .nil .nil, ⟨bounds_i64 w0, bounds_i64 w1, bounds_i64 w2, bounds_i64 w3, trivial, trivial⟩, ⟨none, 0, rfl, by omega, fun h => absurd h (by omega), fun h => absurd h (by omega)⟩, by simp only [Dt.tx]; rw [if_neg (by omega), if_neg (by omega)]; omega⟩
      · simp at hcs
        subst hcs
        have hlt : n2 < fuel := by omega
        have hpl : 0 < len → ∃ b off, a = ⟨b, off, none⟩ := fun h0 => by
          have hb := hi 0 h0
          rw [List.getElem?_eq_getElem (by omega)] at hb
          obtain ⟨cs', hc, _⟩ := Option.bind_eq_some_iff.1 hb
          rw [cellsErr] at hc
          obtain ⟨_, hcl, hat⟩ := World.cells?_some hc
          have h0 := hat 0 (by omega)
          obtain ⟨u, hu⟩ : ∃ u, cs'[0]? = some u := ⟨_, List.getElem?_eq_getElem (by omega)⟩
          rw [hu] at h0
          exact plain_addr (by simpa [Addr.add] using h0)
        have hb5 : Rows.uptoBulkAll (elems.map (·.1)) + 1 ≤ Rows.uptoBulk y5.1 := by rw [hy5]; simp only [Rows.uptoBulk]; omega
        have one : ∀ i (hil : i < len), ∃ (d : Dt) (b off : Nat) (x : Value), d.ok ∧ a = ⟨b, off, none⟩ ∧ EltAt w b (off + i * 6) x ∧ DV w d x ∧ d.tx ≤ Rows.uptoBulk (elems[i]'(by omega)).1 := fun i hil => by
          have hb := hi i hil
          rw [List.getElem?_eq_getElem (by omega)] at hb
          obtain ⟨cs', hc, ht⟩ := Option.bind_eq_some_iff.1 hb
          rw [cellsErr] at hc
          obtain ⟨_, hcl, hat⟩ := World.cells?_some hc
          obtain ⟨d, hd, hv, htx⟩ := ih n2 hlt cs' _ hcl ht
          match cs', hcl with
          | [e0, e1, e2, e3, e4, e5], _ =>
            have g0 := hat 0 (by omega)
            have g1 := hat 1 (by omega)
            have g2 := hat 2 (by omega)
            have g3 := hat 3 (by omega)
            have g4 := hat 4 (by omega)
            have g5 := hat 5 (by omega)
            simp only [add_add, List.getElem?_cons_zero, List.getElem?_cons_succ] at g0 g1 g2 g3 g4 g5
            obtain ⟨ab, ao, rfl⟩ := hpl (by omega)
            rw [addr_plus] at g0 g1 g2 g3 g4 g5
            refine ⟨d, ab, ao, _, hd, rfl, ⟨e0, e1, e2, e3, e4, e5, rfl, by simpa using g0, ?_, ?_, ?_, ?_, ?_⟩, hv, htx⟩
            · rw [Nat.add_assoc]; exact g1
            · rw [Nat.add_assoc]; exact g2
            · rw [Nat.add_assoc]; exact g3
            · rw [Nat.add_assoc]; exact g4
            · rw [Nat.add_assoc]; exact g5
        have hml : len ≤ 9223372036854775807 := by unfold maxLen at hcm; omega
        have okk : ∀ a b : Dt, a.ok → b.ok → (Dt.mk k0 k1 k2 k3 s len a b).ok := fun a b ha hb => ⟨bounds_i64 w0, bounds_i64 w1, bounds_i64 w2, bounds_i64 w3, ha, hb⟩
        by_cases hl0 : 0 < len
        · obtain ⟨d0, b0, off0, x0, ok0, ea0, he0, hv0, tx0⟩ := one 0 hl0
          rw [Nat.zero_mul, Nat.add_zero] at he0
          by_cases hl1 : 1 < len
          · obtain ⟨d1, b1, off1, x1, ok1, ea1, he1, hv1, tx1⟩ := one 1 hl1
            have h2 := all_two (elems.map (·.1)) (by rw [List.length_map]; omega)
            simp only [List.getElem_map] at h2
            rw [Nat.one_mul] at he1
            exact ⟨.mk k0 k1 k2 k3 s len d0 d1, okk _ _ ok0 ok1, ⟨some a, cap, rfl, hml, fun _ => ⟨b0, off0, x0, by rw [ea0], he0, hv0⟩, fun _ => ⟨b1, off1, x1, by rw [ea1], he1, hv1⟩⟩, by simp only [Dt.tx]; rw [if_pos hl0, if_pos hl1]; omega⟩
          · exact ⟨.mk k0 k1 k2 k3 s len d0 .nil, okk _ _ ok0 trivial, ⟨some a, cap, rfl, hml, fun _ => ⟨b0, off0, x0, by rw [ea0], he0, hv0⟩, fun h => absurd h hl1⟩, by
              have h1 := all_mem (List.mem_map.2 ⟨elems[0]'(by omega), List.getElem_mem _, rfl⟩ : (elems[0]'(by omega)).1 ∈ elems.map (·.1))
              simp only [Dt.tx]; rw [if_pos hl0, if_neg hl1]; omega⟩
        · exact ⟨.mk k0 k1 k2 k3 s len .nil .nil, okk _ _ trivial trivial, ⟨some a, cap, rfl, hml, fun h => absurd h hl0, fun h => absurd h (by omega)⟩, by simp only [Dt.tx]; rw [if_neg hl0, if_neg (by omega)]; omega⟩
set_option maxRecDepth 100000 in
/-- An error that comes in. -/
theorem open_errU {r : Reach} {b0 : Nat} {v : Value} {fuel : Nat} {x : DataW H × List MemPlace} (hv : Value.okWide Tryz.prog w r b0 25 v) (h : DataW.trod enc Tryz.prog w 0 spare held fuel 25 v.cells.toList = some x) : ∃ d : Dt, d.ok ∧ DV w d v ∧ d.tx ≤ Rows.uptoBulk x.1 := by
  obtain ⟨cs, rfl, hsz⟩ := okWide_struct Tryz.underlying25 hv
  obtain ⟨l⟩ := cs
  obtain ⟨d, hd, hv, htx⟩ := open_errU_cells fuel l x (hsz.trans cellsErr) h
  exact ⟨d, hd, hv, htx⟩
end
end Go.Proofs.YtlnamkplbikcjaaGreatDoor
