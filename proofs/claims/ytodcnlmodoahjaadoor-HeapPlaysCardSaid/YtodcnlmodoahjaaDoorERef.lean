/- The document's own list of items: place, Key; what an append of items makes; no condition but those that each row names. -/
import Derived.Test.YtodcnlmodoahjaaDoorEOps
import Derived.Test.YtodcnlmodoahjaaDoorEAll
import Derived.Deep.AppendLies
import Derived.Deep.Upon
import Derived.Shelf.Abstract
namespace Go.Proofs.YtodcnlmodoahjaaDoor
open Go.RowKit Hp

abbrev RT : TypeId := 61
/-- A slice of items that some call has made. -/
abbrev Its (w : World) (v : Value) (L : List (Int × Int)) : Prop := w.ownsRow 0 RT 2 v L.length (cells2 enc_I L)
theorem Tryd.infIt : (Tryd.prog.info? 61).map (fun i => (i.zero, i.size, i.bytes)) = some (some (.agg #[.int .i64 0, .int .i64 0]), 2, 16) := by kernel_rfl
theorem own_base {B B' e z n : Nat} {w : World} {v : Value} {xs : List Value} (h : w.ownsRow B e z v n xs) (hB : B' ≤ B) : w.ownsRow B' e z v n xs :=
  ⟨h.1, h.2.imp id (fun ⟨g, cap, cur, e, hb, r⟩ => ⟨g, cap, cur, e, Nat.le_trans hB hb, r⟩)⟩
theorem own_small {B e z n : Nat} {w : World} {v : Value} {xs : List Value} (h : w.ownsRow B e z v n xs) : ∃ p cap, v = .slice p n cap ∧ n ≤ cap := by
  rcases h.2 with ⟨rfl, h2⟩ | ⟨g, cap, cur, rfl, _, _, hn, _⟩
  · exact ⟨none, 0, by rw [h2], by omega⟩
  · exact ⟨_, _, rfl, hn⟩
theorem Its.below {w w' : World} {v : Value} {L : List (Int × Int)} (h : Its w v L) (hb : Below w.heap.size w w') : Its w' v L :=
  own_keeps h (Keeps.of_below (S := fun _ => False) hb) (fun _ _ k => k)
theorem Its.cells {w : World} {L : List (Int × Int)} {g cap : Nat} (h : Its w (.slice (some ⟨g, 0, none⟩) L.length cap) L) (i : Nat) (hi : i < L.length) : w.cell? ⟨g, i * 2, none⟩ = some (.int .i64 L[i].1) ∧ w.cell? ⟨g, i * 2 + 1, none⟩ = some (.int .i64 L[i].2) := by
  obtain ⟨c0, c1⟩ := cells2_at enc_I L i hi
  exact ⟨(h.cellAt _ (by omega)).trans c0, (h.cellAt _ (by omega)).trans c1⟩
/-- What is appended: m items, their cells. -/
def Src2 (w : World) (u : Value) (m : Nat) (ys : List Value) : Prop := ∃ p cap, u = .slice p m cap ∧ ys.length = m * 2 ∧ ∀ j y, ys[j]? = some y → ∃ b off, p = some ⟨b, off, none⟩ ∧ w.cell? ⟨b, off + j, none⟩ = some y
theorem run_append_its (w : World) (ty : TypeId) (base : Nat) (v : Value) (n : Nat) (xs : List Value) (hown : w.ownsRow base RT 2 v n xs) (u : Value) (m : Nat) (ys : List Value) (hu : Src2 w u m ys) (h1 : ∀ u ∈ ys, u.oneCell' = true) (hm : n + m ≤ 1000000) (hbase : base ≤ w.heap.size) :
    ∃ p cap w', (Builtin.append_ #[25, 25] ty #[v, u]).run Tryd.prog w = .ok (.slice p (n + m) cap) w' ∧ w'.ownsRow base RT 2 (.slice p (n + m) cap) (n + m) (xs ++ ys) ∧ w.grownBy w' v.ownBlock ∧
      (∀ g, (Value.slice p (n + m) cap).ownBlock = some g → v.ownBlock = some g ∨ w.heap.size ≤ g) := by
  obtain ⟨i0, hi, hz0, hz1, hz2⟩ := info_parts Tryd.infIt
  obtain ⟨p, cap, rfl, hl, hc⟩ := hu
  cases m with
  | zero =>
    obtain rfl : ys = [] := List.eq_nil_of_length_eq_zero (by omega)
    obtain ⟨p', cap', rfl, hle⟩ := own_small hown
    refine ⟨p', cap', w, ?_, by simpa using hown, ⟨rfl, rfl, rfl, Nat.le_refl _, fun _ _ _ => rfl⟩, fun g e => .inl e⟩
    refine run_append_nothing w 25 25 ty RT i0 Tryd.underlying25 hi p' n cap' hle _ ?_
    cases p with
    | none => exact Src.ofNil w Tryd.underlying25 cap
    | some a => exact Src.ofSlice w Tryd.underlying25 a 0 cap [] (by simp) (fun j u hj => by simp at hj) (fun u hu => by simp at hu)
  | succ m =>
    obtain ⟨y, hy⟩ : ∃ y, ys[0]? = some y := ⟨_, List.getElem?_eq_getElem (by omega)⟩
    obtain ⟨b, off, rfl, _⟩ := hc 0 y hy
    obtain ⟨g, cap', w', hr, ho, hg, hat, hlt⟩ := run_append_lies (P := Tryd.prog) (w := w) 25 ty base RT i0 (.agg #[.int .i64 0, .int .i64 0]) 2 16 Tryd.underlying25 hi hz0 hz1 hz2 rfl (by decide) v n xs hown ⟨b, off, none⟩ (m + 1) cap ys hl
      (fun j u hj => by
        obtain ⟨b', off', e, hcell⟩ := hc j u hj
        cases e
        have hadd : (⟨b, off, none⟩ : Addr).add j = ⟨b, off + j, none⟩ := by unfold Addr.add; split <;> simp_all
        rw [hadd]; exact hcell) h1 (by omega) (by unfold maxLen; omega) (by omega) hbase _ rfl
    refine ⟨_, _, w', hr, ho, hg, fun g' e => ?_⟩
    simp [Value.ownBlock] at e
    subst e
    rcases hat with e | e
    · exact .inl e
    · exact .inr (by omega)
theorem wpList_append_its {w : World} {ops : Array Oper} {rest : List Oper} {o : Oper} {a : Act} {Q : Exit → Act → World → Prop} (hgd : o.guard = none) (s x : Operand)
    (ho : o.op = .call { callee := .builtin .append, args := #[s, x], argTypes := #[25, 25] })
    (base : Nat) (v : Value) (n : Nat) (xs : List Value) (hs : a.eval s = v) (hown : w.ownsRow base RT 2 v n xs) (u : Value) (m : Nat) (ys : List Value) (hx : a.eval x = u) (hu : Src2 w u m ys) (h1 : ∀ u ∈ ys, u.oneCell' = true) (hm : n + m ≤ 1000000) (hbase : base ≤ w.heap.size)
    (h : ∀ p cap w', w'.ownsRow base RT 2 (.slice p (n + m) cap) (n + m) (xs ++ ys) → w.grownBy w' v.ownBlock → (∀ g, (Value.slice p (n + m) cap).ownBlock = some g → v.ownBlock = some g ∨ w.heap.size ≤ g) → wpList Tryd.prog ops Q rest (a.put o.dst (.slice p (n + m) cap)) w') : wpList Tryd.prog ops Q (o :: rest) a w := by
  refine wpList_plain hgd fun K hK => ?_
  obtain ⟨p, cap, w', hr, h2, h3, h4⟩ := run_append_its w o.type base v n xs hown u m ys hu h1 hm hbase
  unfold Oper.wp execOp
  simp only [ho, resolve, invoke, builtin, Sem.run_bind, Sem.run_pure, Result.andThen_ok, List.map_toArray, List.map_cons, List.map_nil, hs, hx, hr]
  exact hK _ _ (h p cap w' h2 h3 h4)

/-- Where a number stands first. -/
def FirstAt (L : List (Int × Int)) (id : Int) (i : Nat) : Prop := ∃ h : i < L.length, L[i].1 = id ∧ ∀ j (h : j < L.length), j < i → L[j].1 ≠ id
set_option maxHeartbeats 1000000 in
theorem rplace_yes (w : World) (v : Value) (L : List (Int × Int)) (h : Its w v L) (h4 : L.length ≤ 4096) (id : Int) (i : Nat) (hi : FirstAt L id i) :
    Calls Tryd.prog 25 #[v, .int .i64 id] w fun e w' => e = .returned (.int .i64 i) ∧ w = w' := by
  obtain ⟨hil, hid, hno⟩ := hi
  obtain ⟨g, cap, rfl, _, _⟩ := h.form (by omega)
  have HC := Lib.hid (fun j (hj : j < L.length) => (h.cells j hj).1)
  have HN := Lib.hid hno
  have HI := Lib.hid hid
  clear h hno hid
  go_enter Tryd.func25, Tryd.ntmps25
  go_wp2_with fail
  go_loop [5] (fun iv => ∃ k : Nat, iv = .int .i64 k ∧ k ≤ i) (fun iv => L.length - (intOf iv).toNat)
  case atStart => exact ⟨0, rfl, Nat.zero_le _⟩
  case round =>
    obtain ⟨k, rfl, hk⟩ := hrel
    have hkl : k < L.length := by omega
    have hkl' : (k : Int) < (L.length : Int) := by omega
    have c0 := HC.out k hkl
    by_cases e : k = i
    · subst e
      rw [HI.out] at c0
      go_wp2_with fail
      go_ret
      exact ⟨rfl, rfl⟩
    · have hne := HN.out k hkl (by omega)
      generalize L[k].1 = y at c0 hne
      have hz : (y == id) = false := by simpa using hne
      go_wp2_with fail
      go_round
      case rel => exact ⟨k + 1, by go_num, by omega⟩
      case measure => simp [intOf]; omega
set_option maxHeartbeats 1000000 in
theorem rplace_no (w : World) (v : Value) (L : List (Int × Int)) (h : Its w v L) (h4 : L.length ≤ 4096) (id : Int) (hno : ∀ e ∈ L, e.1 ≠ id) :
    Calls Tryd.prog 25 #[v, .int .i64 id] w fun e w' => e = .returned (.int .i64 (-1)) ∧ w = w' := by
  obtain ⟨p, cap, rfl, _⟩ := own_small h
  have HC := Lib.hid (show ∀ j (hj : j < L.length), ∃ g, p = some ⟨g, 0, none⟩ ∧ w.cell? ⟨g, j * 2, none⟩ = some (.int .i64 L[j].1) from fun j hj => by
    obtain ⟨g, cap', e, _, _⟩ := h.form (by omega)
    injection e with e _ _
    subst e
    exact ⟨g, rfl, (h.cells j hj).1⟩)
  have HN := Lib.hid hno
  clear h hno
  go_enter Tryd.func25, Tryd.ntmps25
  go_wp2_with fail
  go_loop [5] (fun iv => ∃ k : Nat, iv = .int .i64 k ∧ k ≤ L.length) (fun iv => L.length - (intOf iv).toNat)
  case atStart => exact ⟨0, rfl, Nat.zero_le _⟩
  case round =>
    obtain ⟨k, rfl, hk⟩ := hrel
    by_cases hkl : k < L.length
    · have hkl' : (k : Int) < (L.length : Int) := by omega
      obtain ⟨g, rfl, c0⟩ := HC.out k hkl
      have hne := HN.out _ (List.getElem_mem hkl)
      generalize L[k].1 = y at c0 hne
      have hz : (y == id) = false := by simpa using hne
      go_wp2_with fail
      go_round
      case rel => exact ⟨k + 1, by go_num, by omega⟩
      case measure => simp [intOf]; omega
    · have hg3 : decide (k < L.length) = false := decide_eq_false hkl
      go_wp2_with fail
      go_ret
      exact ⟨rfl, rfl⟩
set_option maxHeartbeats 1000000 in
theorem rkey_yes (w : World) (v : Value) (L : List (Int × Int)) (h : Its w v L) (h4 : L.length ≤ 4096) (id : Int) (i : Nat) (hi : FirstAt L id i) (key : Int) (hk : (L[i]'hi.1).2 = key) :
    Calls Tryd.prog 15 #[v, .int .i64 id] w fun e w' => e = .returned (.tuple #[.int .i64 key, .bool true]) ∧ Below w.heap.size w w' := by
  have HP := Lib.hid (rplace_yes w v L h h4 id i hi)
  obtain ⟨hil, _, _⟩ := hi
  obtain ⟨g, cap, rfl, _, _⟩ := h.form (by omega)
  have c1 := (h.cells i hil).2
  rw [hk] at c1
  have hil' : (i : Int) < (L.length : Int) := by omega
  have hi0 : ¬ (i : Int) < 0 := by omega
  clear h hk
  go_enter Tryd.func15, Tryd.ntmps15
  go_wp2_with fail
  refine HP.out.mono ?_
  rintro e w1 ⟨rfl, rfl⟩
  go_wp2_with fail
  go_ret2
  exact ⟨rfl, Below.refl _ _⟩
theorem rkey_no (w : World) (v : Value) (L : List (Int × Int)) (h : Its w v L) (h4 : L.length ≤ 4096) (id : Int) (hno : ∀ e ∈ L, e.1 ≠ id) :
    Calls Tryd.prog 15 #[v, .int .i64 id] w fun e w' => e = .returned (.tuple #[.int .i64 0, .bool false]) ∧ Below w.heap.size w w' := by
  have HP := Lib.hid (rplace_no w v L h h4 id hno)
  clear h hno
  go_enter Tryd.func15, Tryd.ntmps15
  go_wp2_with fail
  refine HP.out.mono ?_
  rintro e w1 ⟨rfl, rfl⟩
  go_wp2_with fail
  go_ret2
  exact ⟨rfl, Below.refl _ _⟩
end Go.Proofs.YtodcnlmodoahjaaDoor
