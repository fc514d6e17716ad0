/- The program's Put and Clear of a queue of numbers; no condition but those that each row names. -/
import Derived.Test.YtdpchojfgcjbeaaFPush
import Derived.Test.YtdpchojfgcjbeaaFDrop
import Derived.Deep.RegionLaw
namespace Go.Proofs.Ytdpchojfgcjbeaa
open Go.RowKit

theorem splice_take_in {cur : List Value} {o m : Nat} {vs : List Value} (h : o + vs.length ≤ m) (hm : m ≤ cur.length) : (splice cur o vs).take m = splice (cur.take m) o vs := by
  have l1 : (cur.take o).length = o := by rw [List.length_take]; omega
  unfold splice
  rw [List.take_append, List.take_of_length_le (l := cur.take o) (by omega), List.take_append, List.take_of_length_le (l := vs) (by omega), l1, List.drop_take, List.take_take, Nat.min_eq_left (by omega), Nat.sub_sub]
theorem flat_set {k : Nat} {l : List (Value × Int)} (hw : Wide k l) {i : Nat} (hi : i < l.length) {v : Value} (hv : (cellsOf v).length = k) (z : Int) :
    splice (flat l) (i * (k + 1)) (cellsOf v ++ [.int .i64 z]) = flat (l.set i (v, z)) := by
  unfold splice
  rw [flat_take hw, List.set_eq_take_append_cons_drop, if_pos hi, flat_append, show i * (k + 1) + (cellsOf v ++ [Value.int .i64 z]).length = (i + 1) * (k + 1) from by simp [hv, Nat.add_mul], flat_drop hw]
  simp [flat]

/-- The element at a place is another one. -/
def Qu.put (A : Qu) (i : Nat) (v : Value) : Qu := { limit := A.limit, l := A.l.set i (v, A.last + 1), last := A.last + 1 }
theorem good_put {A : Qu} (h : A.Good 1) {i : Nat} (x : Int) : (A.put i (.int .i64 x)).Good 1 := by
  have hz := h.z0
  refine ⟨h.l0, h.l1, by simpa [Qu.put] using h.len, ?_, by simp [Qu.put]; omega, ?_, ?_⟩
  · intro p hp
    rcases List.mem_or_eq_of_mem_set hp with hp | rfl
    · exact h.wd p hp
    · exact ⟨rfl, fun u hu => by simp [cellsOf] at hu; subst hu; rfl⟩
  · intro p hp
    rcases List.mem_or_eq_of_mem_set hp with hp | rfl
    · have := h.nums p hp; simp [Qu.put]; omega
    · simp [Qu.put]; omega
  · simp only [Qu.put, List.map_set]
    refine List.Pairwise.imp (fun h => h) ?_
    refine List.pairwise_iff_getElem.2 fun a c ha hc hac => ?_
    have hnd := List.pairwise_iff_getElem.1 h.nd
    simp only [List.length_set] at ha hc
    have hb : ∀ j (hj : j < (A.l.map (·.2)).length), (A.l.map (·.2))[j] ≤ A.last := fun j hj => by
      obtain ⟨p, hp, e⟩ := List.mem_map.1 (List.getElem_mem hj)
      rw [← e]; exact (h.nums p hp).2
    rw [List.getElem_set, List.getElem_set]
    split
    · next e => subst e; rw [if_neg (by omega)]; have := hb c hc; omega
    · split
      · have := hb a ha; omega
      · exact hnd a c ha hc hac

theorem PQ.put1 {T E : TypeId} {B : Nat} {w : World} {A : Qu} {b : Nat} {g cap : Nat} (h : PQ T E 1 B w A.next b (.slice (some ⟨g, 0, none⟩) A.l.length cap)) (hA : A.Good 1) {i : Nat} (hi : i < A.l.length) (x : Int) :
    PQ T E 1 B ((w.setCell ⟨g, i * 2, none⟩ (.int .i64 x)).setCell ⟨g, i * 2 + 1, none⟩ (.int .i64 (A.last + 1))) (A.put i (.int .i64 x)) b (.slice (some ⟨g, 0, none⟩) A.l.length cap) := by
  have hgb : b ≠ g := fun e => h.ne (by simp [Value.ownBlock, e])
  have hown : w.ownsRow B E 2 (.slice (some ⟨g, 0, none⟩) A.l.length cap) A.l.length (flat A.l) := h.own
  obtain ⟨cur, hrow, hB, hn, hm, hl, ht⟩ := row_of_own hown
  have hr2 := Row.setCells [.int .i64 x, .int .i64 (A.last + 1)] (i * 2) hrow (by simp; omega)
  have hfl : (flat A.l).length = A.l.length * 2 := flat_len hA.wd
  refine ⟨?_, ?_, h.hb, h.ne⟩
  · rw [heap_setCell_other _ _ _ _ hgb, heap_setCell_other _ _ _ _ hgb]; exact h.blk
  · have e1 : (A.put i (.int .i64 x)).l.length = A.l.length := by simp [Qu.put]
    rw [e1]
    refine own_of_row (cur := splice cur (i * 2) [.int .i64 x, .int .i64 (A.last + 1)]) hr2 hB hn hm (by rw [splice_len (by simp; omega), hl]) ?_
    rw [splice_take_in (by simp; omega) (by omega), ht]
    exact flat_set (v := .int .i64 x) hA.wd hi rfl (A.last + 1)
def PutPost (B : Nat) (w : World) (A : Qu) (b : Nat) (s : Value) (e : Ending) (w' : World) : Prop :=
  e = .returned .nilIface ∧ PQ QT_I ET_I 1 B w' A b s ∧ Keeps (fun x => x = b ∨ s.ownBlock = some x) w w'

set_option maxHeartbeats 1000000 in
set_option maxRecDepth 100000 in
theorem put_yes (B : Nat) (A : Qu) (hA : A.Good 1) (w : World) (b : Nat) (s : Value) (h : PQ QT_I ET_I 1 B w A b s) (i : Nat) (hi : i < A.l.length) (x : Int) (hl : A.last + 1 ≤ 9223372036854775807) :
    Calls Try.prog 19 #[.pointer (some ⟨b, 0, none⟩), .int .i64 i, .int .i64 x] w (PutPost B w (A.put i (.int .i64 x)) b s) := by
  obtain ⟨g, cap, hs, hBg, hglt, hgb⟩ := h.form (by omega)
  subst hs
  have HN := Lib.hid (has_I 1 B A w b _ h i)
  rw [show hasB A i = true from hasB_iff.2 ⟨by omega, by omega⟩] at HN
  have HE := fun w h => Lib.hid (enter_I B A hA w b (.slice (some ⟨g, 0, none⟩) A.l.length cap) h x hl)
  have HP := Lib.hid h
  have HA := Lib.hid hA
  have f1 := h.f1
  have hlt := h.lt
  have z0 : (0 : Int) ≤ (i : Int) := by omega
  have z1 : (i : Int) < (A.l.length : Int) := by omega
  have q0 := h.own.cellAt (i * 2) (by omega)
  have q1 := h.own.cellAt (i * 2 + 1) (by omega)
  rw [List.getElem?_eq_getElem (by rw [flat_len hA.wd]; omega)] at q0 q1
  have p0 := h.own.frozenAt (i * 2)
  have p1 := h.own.frozenAt (i * 2 + 1)
  have hgb' : ¬ g = b := hgb
  generalize (flat A.l)[i * 2]'(by rw [flat_len hA.wd]; omega) = y0 at q0
  generalize (flat A.l)[i * 2 + 1]'(by rw [flat_len hA.wd]; omega) = y1 at q1
  clear h hA hl
  go_enter Try.func19, Try.ntmps19
  go_wp2_with fail
  refine HN.out.mono ?_
  rintro e w1 ⟨rfl, rfl⟩
  go_wp2_with fail
  go_upto_region 3 with fail
  go_cut [] (fun wx => Hid (PutPost B w (A.put i (.int .i64 x)) b (.slice (some ⟨g, 0, none⟩) A.l.length cap) (.returned .nilIface) wx))
  case first =>
    go_region_law (go_simp; go_at_call 50; refine (HE _ HP.out.drew).out.mono ?_; rintro e w2 ⟨rfl, h1, hk⟩; have f1' := h1.f1; have hk2 : ∀ j, w2.cell? ⟨g, j, none⟩ = w.cell? ⟨g, j, none⟩ := fun j => hk.cell (p := ⟨g, j, none⟩) hglt hgb; have q0' := (hk2 (i * 2)).trans q0; have q1' := (hk2 (i * 2 + 1)).trans q1; have p0' := h1.own.frozenAt (i * 2); have p1' := h1.own.frozenAt (i * 2 + 1))
    all_goals go_wp2_with fail
    all_goals
      go_meet
      refine Lib.hid ⟨rfl, h1.put1 HA.out hi x, ?_⟩
      exact (((((Keeps.refl _ w).drew).trans hk).mono (fun _ => .inl)).setCell _ _ (.inl (.inr rfl))).setCell _ _ (.inl (.inr rfl))
  case rest =>
    go_wp2_with fail
    go_ret
    exact hcut.out
set_option maxHeartbeats 400000 in
theorem put_no (k B : Nat) (A : Qu) (w : World) (b : Nat) (s : Value) (h : PQ QT_I ET_I k B w A b s) (i : Int) (hi : hasB A i = false) (x : Int) :
    Calls Try.prog 19 #[.pointer (some ⟨b, 0, none⟩), .int .i64 i, .int .i64 x] w fun e w' => e = .returned (errV 50) ∧ w = w' := by
  have HT := Lib.hid (has_I k B A w b s h i)
  rw [hi] at HT
  clear h hi
  go_enter Try.func19, Try.ntmps19
  go_wp2_with fail
  refine HT.out.mono ?_
  rintro e w1 ⟨rfl, rfl⟩
  go_wp2_with fail
  go_ret
  exact ⟨rfl, rfl⟩
set_option maxHeartbeats 400000 in
theorem put_nil (w : World) (i x : Int) :
    Calls Try.prog 19 #[.pointer none, .int .i64 i, .int .i64 x] w fun e w' => e = .returned (errV 50) ∧ w = w' := by
  go_enter Try.func19, Try.ntmps19
  go_wp2_with fail
  refine (has_nil_I w i).mono ?_
  rintro e w1 ⟨rfl, rfl⟩
  go_wp2_with fail
  go_ret
  exact ⟨rfl, rfl⟩

/-- Nothing is left. -/
def Qu.clear (A : Qu) : Qu := { A with l := [] }
theorem good_clear {k : Nat} {A : Qu} (h : A.Good k) : A.clear.Good k :=
  ⟨h.l0, h.l1, by simpa [Qu.clear] using h.l0, fun p hp => by simp [Qu.clear] at hp, h.z0, fun p hp => by simp [Qu.clear] at hp, by simp [Qu.clear]⟩
def ClearPost (B : Nat) (w : World) (A : Qu) (b : Nat) (s : Value) (n : Nat) (e : Ending) (w' : World) : Prop :=
  e = .returned (.int .i64 n) ∧ ∃ s', PQ QT_I ET_I 1 B w' A b s' ∧ Keeps (fun x => x = b ∨ s.ownBlock = some x) w w' ∧ s'.ownBlock = s.ownBlock

set_option maxHeartbeats 1000000 in
set_option maxRecDepth 100000 in
theorem clear_any (B : Nat) (A : Qu) (w : World) (b : Nat) (s : Value) (h : PQ QT_I ET_I 1 B w A b s) :
    Calls Try.prog 24 #[.pointer (some ⟨b, 0, none⟩)] w (ClearPost B w A.clear b s A.l.length) := by
  have HN := Lib.hid (len_I 1 B A w b s h)
  have HP := Lib.hid h
  by_cases hn : 0 < A.l.length
  · obtain ⟨g, cap, hs, hBg, hglt, hgb⟩ := h.form hn
    subst hs
    have f1 := h.f1
    obtain ⟨cur, hrow, hB, hnc, hcm, hcl, htk⟩ := row_of_own h.own
    have hclr : ∀ ty, (Builtin.clear_ #[41] ty #[.slice (some ⟨g, 0, none⟩) A.l.length cap]).run Try.prog w = .ok (.tuple #[]) (w.setCells g 0 (zeros #[.int .i64 0, .int .i64 0] A.l.length)) :=
      fun ty => run_clear_row w _ _ ty (.agg #[.int .i64 0, .int .i64 0]) Try.underlying41 zeroEntry_I (by simp [Value.cells, Value.oneCell']) hrow _ _ _ hn (by rw [hcl]; simp [Value.cells]; omega)
    obtain ⟨w1, hw1⟩ : ∃ w1, w1 = w.setCells g 0 (zeros #[.int .i64 0, .int .i64 0] A.l.length) := ⟨_, rfl⟩
    have hk1 : Keeps (fun x => (Value.slice (some ⟨g, 0, none⟩) A.l.length cap).ownBlock = some x) w w1 := by rw [hw1]; exact setCells_keeps _ _ (Keeps.refl _ w) (.inl rfl)
    have hr1 : Row ET_I w1 g (splice cur 0 (zeros #[.int .i64 0, .int .i64 0] A.l.length)) := by rw [hw1]; exact Row.setCells _ _ hrow (by rw [zeros_len]; simp; omega)
    have ho1 : w1.ownsRow B ET_I 2 (.slice (some ⟨g, 0, none⟩) 0 cap) 0 (flat []) := own_of_row hr1 hB (Nat.zero_le _) hcm (by rw [splice_len (by rw [zeros_len]; simp; omega), hcl]) (by simp [flat])
    rw [← hw1] at hclr
    obtain ⟨c1, z1⟩ := h.relaid_cell hk1
    have HQ := Lib.hid (h.relaid (l' := []) (s' := .slice (some ⟨g, 0, none⟩) 0 cap) hk1 ho1 rfl)
    have HK := Lib.hid hk1
    have hcp : 0 < cap := by omega
    clear h hw1 hk1 hr1 ho1 hrow htk hcl hcm
    go_enter Try.func24, Try.ntmps24
    go_wp2_with fail
    refine HN.out.mono ?_
    rintro e w2 ⟨rfl, rfl⟩
    go_wp2_with fail
    go_ret
    exact ⟨rfl, _, HQ.out, (HK.out.mono (fun _ => .inr)).setCell _ _ (.inl (.inl rfl)), rfl⟩
  · have hn' : ¬ (0 : Int) < (A.l.length : Int) := by omega
    have hl0 : A.l = [] := List.eq_nil_of_length_eq_zero (by omega)
    have e1 : A.clear = A := by unfold Qu.clear; rw [← hl0]
    clear h
    go_enter Try.func24, Try.ntmps24
    go_wp2_with fail
    refine HN.out.mono ?_
    rintro e w2 ⟨rfl, rfl⟩
    go_wp2_with fail
    go_ret
    exact ⟨by rw [hl0]; rfl, s, by rw [e1]; exact HP.out, Keeps.refl _ _, rfl⟩
set_option maxHeartbeats 400000 in
theorem clear_nil (w : World) :
    Calls Try.prog 24 #[.pointer none] w fun e w' => e = .returned (.int .i64 0) ∧ w = w' := by
  go_enter Try.func24, Try.ntmps24
  go_wp2_with fail
  refine (len_nil_I w).mono ?_
  rintro e w1 ⟨rfl, rfl⟩
  go_wp2_with fail
  go_ret
  exact ⟨rfl, rfl⟩
end Go.Proofs.Ytdpchojfgcjbeaa
