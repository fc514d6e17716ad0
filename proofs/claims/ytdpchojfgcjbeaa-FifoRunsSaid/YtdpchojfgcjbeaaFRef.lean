/- The document's own queue of numbers: New, At and Push; its slice is a row of some call's own; no condition but those that each row names. -/
import Derived.Test.YtdpchojfgcjbeaaFList
import Derived.Deep.AppendLies
import Derived.Deep.Upon
import Derived.Deep.RegionLaw
import Derived.Deep.DeepCutAuto
namespace Go.Proofs.Ytdpchojfgcjbeaa
open Go.RowKit

abbrev NT : TypeId := 3
/-- A slice of numbers that some call has made. -/
abbrev Nums (w : World) (v : Value) (l : List Int) : Prop := w.ownsRow 0 NT 1 v l.length (ints l)
theorem own_base {B B' e z n : Nat} {w : World} {v : Value} {xs : List Value} (h : w.ownsRow B e z v n xs) (hB : B' ≤ B) : w.ownsRow B' e z v n xs :=
  ⟨h.1, h.2.imp id (fun ⟨g, cap, cur, e, hb, r⟩ => ⟨g, cap, cur, e, Nat.le_trans hB hb, r⟩)⟩
theorem own_small {B e z n : Nat} {w : World} {v : Value} {xs : List Value} (h : w.ownsRow B e z v n xs) : ∃ p cap, v = .slice p n cap ∧ n ≤ cap := by
  rcases h.2 with ⟨rfl, h2⟩ | ⟨g, cap, cur, rfl, _, _, hn, _⟩
  · exact ⟨none, 0, by rw [h2], by omega⟩
  · exact ⟨_, _, rfl, hn⟩

theorem below_res {w W : World} (h : Below w.heap.size w W) (q : Nat) (hq : w.heap.size ≤ q) (u0 u1 : Value) (o : Obj) : Below w.heap.size w (((W.setCell ⟨q, 0, none⟩ u0).setCell ⟨q, 1, none⟩ u1).alloc o) :=
  ((h.setCell (p := ⟨q, 0, none⟩) hq u0).setCell (p := ⟨q, 1, none⟩) hq u1).alloc (by have := h.size; simpa [World.setCell] using this) o
/-- A slice appended to a row of the call's own. -/
theorem run_append_nums (w : World) (ty : TypeId) (base : Nat) (v : Value) (n : Nat) (xs : List Value) (hown : w.ownsRow base NT 1 v n xs) (u : Value) (ys : List Value) (hu : Lst (fun _ => False) w u ys) (h1 : ∀ u ∈ ys, u.oneCell' = true) (hm : n + ys.length ≤ 1000000) (hbase : base ≤ w.heap.size) :
    ∃ p cap w', (Builtin.append_ #[28, 28] ty #[v, u]).run Try.prog w = .ok (.slice p (n + ys.length) cap) w' ∧ w'.ownsRow base NT 1 (.slice p (n + ys.length) cap) (n + ys.length) (xs ++ ys) ∧ w.grownBy w' v.ownBlock ∧
      (∀ g, (Value.slice p (n + ys.length) cap).ownBlock = some g → v.ownBlock = some g ∨ w.heap.size ≤ g) := by
  obtain ⟨i0, hi, hz0, hz1, hz2⟩ := info_parts Try.infInt
  obtain ⟨p, cap, rfl, hl, hc⟩ := hu
  cases ys with
  | nil =>
    obtain ⟨p', cap', rfl, hle⟩ := own_small hown
    refine ⟨p', cap', w, ?_, by simpa using hown, ⟨rfl, rfl, rfl, Nat.le_refl _, fun _ _ _ => rfl⟩, fun g e => .inl e⟩
    refine run_append_nothing w 28 28 ty NT i0 Try.underlying28 hi p' n cap' hle _ ?_
    cases p with
    | none => exact Src.ofNil w Try.underlying28 cap
    | some a => exact Src.ofSlice w Try.underlying28 a 0 cap [] (by simp) (fun j u hj => by simp at hj) (fun u hu => by simp at hu)
  | cons y ys =>
    obtain ⟨b, off, rfl, _, _⟩ := hc 0 y rfl
    obtain ⟨g, cap', w', hr, ho, hg, hat, hlt⟩ := run_append_lies (P := Try.prog) (w := w) 28 ty base NT i0 (.int .i64 0) 1 8 Try.underlying28 hi hz0 hz1 hz2 rfl (by decide) v n xs hown ⟨b, off, none⟩ (y :: ys).length cap (y :: ys) (by simp)
      (fun j u hj => by
        obtain ⟨b', off', e, _, hcell⟩ := hc j u hj
        cases e
        have hadd : (⟨b, off, none⟩ : Addr).add j = ⟨b, off + j, none⟩ := by unfold Addr.add; split <;> simp_all
        rw [hadd]; exact hcell) h1 (by simp) (by unfold maxLen; omega) (by omega) hbase _ rfl
    refine ⟨_, _, w', hr, ho, hg, fun g' e => ?_⟩
    simp [Value.ownBlock] at e
    subst e
    rcases hat with e | e
    · exact .inl e
    · exact .inr (by omega)
theorem wpList_append_nums {w : World} {ops : Array Oper} {rest : List Oper} {o : Oper} {a : Act} {Q : Exit → Act → World → Prop} (hgd : o.guard = none) (s x : Operand)
    (ho : o.op = .call { callee := .builtin .append, args := #[s, x], argTypes := #[28, 28] })
    (base : Nat) (v : Value) (n : Nat) (xs : List Value) (hs : a.eval s = v) (hown : w.ownsRow base NT 1 v n xs) (u : Value) (ys : List Value) (hx : a.eval x = u) (hu : Lst (fun _ => False) w u ys) (h1 : ∀ u ∈ ys, u.oneCell' = true) (hm : n + ys.length ≤ 1000000) (hbase : base ≤ w.heap.size)
    (h : ∀ p cap w', w'.ownsRow base NT 1 (.slice p (n + ys.length) cap) (n + ys.length) (xs ++ ys) → w.grownBy w' v.ownBlock → (∀ g, (Value.slice p (n + ys.length) cap).ownBlock = some g → v.ownBlock = some g ∨ w.heap.size ≤ g) → wpList Try.prog ops Q rest (a.put o.dst (.slice p (n + ys.length) cap)) w') : wpList Try.prog ops Q (o :: rest) a w := by
  refine wpList_plain hgd fun K hK => ?_
  obtain ⟨p, cap, w', hr, h2, h3, h4⟩ := run_append_nums w o.type base v n xs hown u ys hu h1 hm hbase
  unfold Oper.wp execOp
  simp only [ho, resolve, invoke, builtin, Sem.run_bind, Sem.run_pure, Result.andThen_ok, List.map_toArray, List.map_cons, List.map_nil, hs, hx, hr]
  exact hK _ _ (h p cap w' h2 h3 h4)

set_option maxHeartbeats 400000 in
theorem rnew_no (w : World) (limit : Int) (h : limit < 1 ∨ 4096 < limit) :
    Calls Try.prog 9 #[.int .i64 limit] w fun e w' => e = .returned (.tuple #[.agg #[.int .i64 0, .slice none 0 0], .int .i64 1]) ∧ Below w.heap.size w w' := by
  have hb := Below.refl w.heap.size w
  by_cases h0 : limit < 1
  · clear h
    go_enter Try.func9, Try.ntmps9
    go_wp2
    refine bodyPost_ret (v := .tuple #[.agg #[.int .i64 0, .slice none 0 0], .int .i64 1]) ?r1 rfl ?_
    case r1 => simp [results, Try.results9, go_sem]
    exact ⟨rfl, hb.alloc (Nat.le_refl _) _⟩
  · have h1 : 4096 < limit := by omega
    have h0' : decide (limit < 1) = false := by simpa using h0
    clear h
    go_enter Try.func9, Try.ntmps9
    go_wp2
    refine bodyPost_ret (v := .tuple #[.agg #[.int .i64 0, .slice none 0 0], .int .i64 1]) ?r1 rfl ?_
    case r1 => simp [results, Try.results9, go_sem]
    exact ⟨rfl, hb.alloc (Nat.le_refl _) _⟩
set_option maxHeartbeats 400000 in
theorem rnew_yes (w : World) (limit : Int) (h0 : 1 ≤ limit) (h1 : limit ≤ 4096) :
    Calls Try.prog 9 #[.int .i64 limit] w fun e w' => e = .returned (.tuple #[.agg #[.int .i64 limit, .slice none 0 0], .int .i64 0]) ∧ Below w.heap.size w w' := by
  have hb := Below.refl w.heap.size w
  have h0' : ¬ limit < 1 := by omega
  have h1' : ¬ 4096 < limit := by omega
  go_enter Try.func9, Try.ntmps9
  go_wp2
  refine bodyPost_ret (v := .tuple #[.agg #[.int .i64 limit, .slice none 0 0], .int .i64 0]) ?r1 rfl ?_
  case r1 => simp [results, Try.results9, go_sem]
  exact ⟨rfl, hb.alloc (Nat.le_refl _) _⟩

set_option maxHeartbeats 400000 in
set_option maxRecDepth 100000 in
theorem rat_yes (w : World) (lim : Int) (v : Value) (l : List Int) (h : Nums w v l) (i : Nat) (hi : i < l.length) (x : Int) (hx : l[i] = x) :
    Calls Try.prog 47 #[.agg #[.int .i64 lim, v], .int .i64 i] w fun e w' => e = .returned (.tuple #[.int .i64 x, .bool true]) ∧ Below w.heap.size w w' := by
  obtain ⟨g, cap, rfl, _, hg⟩ := h.form (by omega)
  have q := h.cellAt i (by omega)
  rw [ints_at hi, show l.getD i 0 = x from by simp [List.getD_eq_getElem?_getD, hi, hx]] at q
  have z0 : (0 : Int) ≤ (i : Int) := by omega
  have z1 : (i : Int) < (l.length : Int) := by omega
  have hb := Below.refl w.heap.size w
  clear h hx
  go_enter Try.func47, Try.ntmps47
  go_wp2_with fail
  go_ret2
  exact ⟨rfl, hb.alloc (Nat.le_refl _) _⟩
set_option maxHeartbeats 400000 in
set_option maxRecDepth 100000 in
theorem rat_no (w : World) (lim : Int) (v : Value) (l : List Int) (h : Nums w v l) (i : Int) (hi : i < 0 ∨ l.length ≤ i) :
    Calls Try.prog 47 #[.agg #[.int .i64 lim, v], .int .i64 i] w fun e w' => e = .returned (.tuple #[.int .i64 0, .bool false]) ∧ Below w.heap.size w w' := by
  obtain ⟨p, cap, rfl, _⟩ := own_small h
  have hb := Below.refl w.heap.size w
  clear h
  by_cases h0 : i < 0
  · clear hi
    go_enter Try.func47, Try.ntmps47
    go_wp2_with fail
    go_ret2
    exact ⟨rfl, hb.alloc (Nat.le_refl _) _⟩
  · have h1 : (l.length : Int) ≤ i := by omega
    have h0' : decide (i < 0) = false := by simpa using h0
    clear hi
    go_enter Try.func47, Try.ntmps47
    go_wp2_with fail
    go_ret2
    exact ⟨rfl, hb.alloc (Nat.le_refl _) _⟩

/-- What the document's acts answer: a queue like l, behind it more. -/
def RPost (w : World) (lim : Int) (l : List Int) (more : List Value) (e : Ending) (w' : World) : Prop :=
  ∃ v, e = .returned (.tuple (#[.agg #[.int .i64 lim, v]] ++ more.toArray)) ∧ Nums w' v l ∧ Below w.heap.size w w'

set_option maxHeartbeats 400000 in
set_option maxRecDepth 100000 in
theorem rpush_no (w : World) (lim : Int) (v : Value) (l : List Int) (h : Nums w v l) (x : Int) (hr : lim ≤ l.length) :
    Calls Try.prog 42 #[.agg #[.int .i64 lim, v], .int .i64 x] w (RPost w lim l [.int .i64 40]) := by
  obtain ⟨p, cap, rfl, _⟩ := own_small h
  have hb := Below.refl w.heap.size w
  have H := Lib.hid h
  clear h
  go_enter Try.func42, Try.ntmps42
  go_wp2_with fail
  refine bodyPost_ret (v := .tuple #[.agg #[.int .i64 lim, .slice p l.length cap], .int .i64 40]) ?r1 rfl ?_
  case r1 => simp [results, Try.results42, go_sem]
  have hbb := (hb.alloc (Nat.le_refl _) (.cells #[.int .i64 lim, .slice p l.length cap] 30)).alloc (by simp) (.cells #[.int .i64 lim, .slice p l.length cap] 30)
  exact ⟨_, rfl, own_below H.out hbb, hbb⟩

/-- What Push has in memory at its end. -/
def PushMem (w : World) (lim : Int) (l : List Int) (wx : World) : Prop :=
  ∃ p cap, wx.cell? ⟨w.heap.size + 1, 0, none⟩ = some (.int .i64 lim) ∧ wx.cell? ⟨w.heap.size + 1, 1, none⟩ = some (.slice p l.length cap) ∧ Nums wx (.slice p l.length cap) l ∧ Below w.heap.size w wx
set_option maxHeartbeats 1000000 in
set_option maxRecDepth 100000 in
theorem rpush_yes (w : World) (lim : Int) (v : Value) (l : List Int) (h : Nums w v l) (x : Int) (hr : l.length < lim) (h4 : lim ≤ 4096) :
    Calls Try.prog 42 #[.agg #[.int .i64 lim, v], .int .i64 x] w (RPost w lim (l ++ [x]) [.int .i64 0]) := by
  obtain ⟨i0, hi, hz0, hz1, hz2⟩ := info_parts Try.infInt
  obtain ⟨p, cap, rfl, _⟩ := own_small h
  have hb0 : ∀ o o', Below w.heap.size w ((w.alloc o).alloc o') := fun o o' => ((Below.refl w.heap.size w).alloc (Nat.le_refl _) o).alloc (by simp) o'
  have HL := Lib.hid (fun o o' => Lst.of_own (S := fun _ => False) (own_below h (hb0 o o')) (ints_len l) (by omega) (fun _ _ _ k => k))
  have el := ints_len l
  have EL := Lib.hid el
  clear h el
  go_enter Try.func42, Try.ntmps42
  go_wp2_with (at_builtin; refine wpList_append_nums rfl _ _ rfl w.heap.size (.slice none 0 0) 0 [] rfl (World.ownsRow_nil _ _ _ _) _ (ints l) rfl (HL.out _ _) ints_one (by rw [EL.out]; omega) (by simp; omega) ?_)
  rw [EL.out]
  intro p2 c2 w2 ho2 hg2 ha2
  have hB2 : Below w.heap.size w w2 := (hb0 _ _).grown hg2 (by simp; omega) (fun k e => by simp [Value.ownBlock] at e)
  have HF : ∀ g, (Value.slice p2 l.length c2).ownBlock = some g → w.heap.size + 2 ≤ g := fun g e => by rcases ha2 g e with h | h; simp [Value.ownBlock] at h; omega
  have y2 : w.heap.size + 2 ≤ w2.heap.size := by have := hg2.size; simpa using this
  have k1 : ∀ j, w2.cell? ⟨w.heap.size, j, none⟩ = (w.alloc (.cells #[.int .i64 lim, .slice p l.length cap] 30)).cell? ⟨w.heap.size, j, none⟩ := fun j => by
    rw [World.cell?_of_block (w := (w.alloc (.cells #[.int .i64 lim, .slice p l.length cap] 30)).alloc (.cells #[.int .i64 0, .slice none 0 0] 30)) (hg2.block w.heap.size (by simp; omega) (by simp [Value.ownBlock]))]
    simp
  have k10 : w2.cell? ⟨w.heap.size, 0, none⟩ = some (.int .i64 lim) := by rw [k1]; simp
  have hb4 : w2.heap[w.heap.size + 1]? = some (.cells #[.int .i64 0, .slice none 0 0] 30 (0, 0)) := (hg2.block _ (by simp) (by simp [Value.ownBlock])).trans (by simpa using heap_alloc_new (w.alloc (.cells #[.int .i64 lim, .slice p l.length cap] 30)) (.cells #[.int .i64 0, .slice none 0 0] 30))
  have y3 : w.heap.size < w2.heap.size := by omega
  have HO := Lib.hid ho2
  have HG := Lib.hid HF
  have HB := Lib.hid hB2
  have HB4 := Lib.hid hb4
  clear ho2 hg2 ha2 HF hB2 k1 hb4
  go_upto_region 5 with fail
  go_cut [5] (fun u wx => u = .int .i64 0 ∧ Hid (PushMem w lim (l ++ [x]) wx))
  case first =>
    go_region_law (first
      | (refine step_append_lies _ rfl _ _ 28 rfl w.heap.size NT i0 (.int .i64 0) 1 8 Try.underlying28 hi hz0 hz1 hz2 rfl (by decide) (.slice p2 l.length c2) l.length (ints l) rfl ((own_below HO.out (below_drewN (Below.refl _ _) 1)).alloc _) ⟨w2.heap.size, 0, none⟩ 1 1 [.int .i64 x] rfl rfl (World.news_of_block (heap_alloc_new _ _)) (by simp [Value.oneCell']) (by decide) (by unfold maxLen; omega) (by omega) (by simp; omega) _ rfl ?_; intro g cap w3 hown hgrow hat hlt; have hb3 := (hgrow.block (w.heap.size + 1) (by simp; omega) (fun e => by have := HG.out _ e.symm; omega)).trans ((Below.heap_alloc _ _ _ (by show w.heap.size + 1 < w2.heap.size; omega)).trans HB4.out); have c30 : w3.cell? ⟨w.heap.size + 1, 0, none⟩ = some (.int .i64 0) := (cell_of_row _ _ _ _ _ _ hb3).trans rfl; have c31 : w3.cell? ⟨w.heap.size + 1, 1, none⟩ = some (.slice none 0 0) := (cell_of_row _ _ _ _ _ _ hb3).trans rfl; have z30 := frozen_of_row w3 _ 0 _ _ hb3; have z31 := frozen_of_row w3 _ 1 _ _ hb3; have lt3 := lt_of_block hb3; have k30 : w3.cell? ⟨w.heap.size, 0, none⟩ = some (.int .i64 lim) := (World.cell?_of_block (hgrow.block w.heap.size (by simp; omega) (fun e => by have := HG.out _ e.symm; omega))).trans ((World.cell?_of_block (w := w2.drew) (Below.heap_alloc _ _ _ (by show w.heap.size < w2.heap.size; omega))).trans k10)))
    all_goals go_wp2_with fail
    all_goals
      go_meet
      have hgw : g ≠ w.heap.size + 1 := by
        rintro rfl
        rcases hat with e | e
        · have := HG.out _ e; omega
        · simp at e; omega
      have hbb : Below w.heap.size w w3 := (HB.out.trans ((below_drewN (Below.refl w2.heap.size w2) 1).alloc (Nat.le_refl _) _ |>.mono (by have := HB.out.size; omega))).grown hgrow (by simp; omega) (fun k e => by have := HG.out _ e; omega)
      have e1 : (w3.setCell ⟨w.heap.size + 1, 0, none⟩ (.int .i64 lim)).heap[w.heap.size + 1]? = some (.cells #[.int .i64 lim, .slice none 0 0] 30 (0, 0)) := by rw [heap_setCell_same _ _ _ _ _ _ hb3]; rfl
      have e2 : ((w3.setCell ⟨w.heap.size + 1, 0, none⟩ (.int .i64 lim)).setCell ⟨w.heap.size + 1, 1, none⟩ (.slice (some ⟨g, 0, none⟩) (l.length + 1) cap)).heap[w.heap.size + 1]? = some (.cells #[.int .i64 lim, .slice (some ⟨g, 0, none⟩) (l.length + 1) cap] 30 (0, 0)) := by rw [heap_setCell_same _ _ _ _ _ _ e1]; rfl
      have hlen : (l ++ [x]).length = l.length + 1 := by simp
      refine ⟨rfl, Lib.hid ?_⟩
      unfold PushMem
      simp only [Nums, hlen]
      refine ⟨some ⟨g, 0, none⟩, cap, (cell_of_row _ _ _ _ _ _ e2).trans rfl, (cell_of_row _ _ _ _ _ _ e2).trans rfl, ?_, ?_⟩
      · have := ownsRow_setCell_other (ownsRow_setCell_other hown (a := ⟨w.heap.size + 1, 0, none⟩) (by simpa [Value.ownBlock] using hgw) (.int .i64 lim)) (a := ⟨w.heap.size + 1, 1, none⟩) (by simpa [Value.ownBlock] using hgw) (.slice (some ⟨g, 0, none⟩) (l.length + 1) cap)
        rw [ints_snoc] at this
        exact own_base this (Nat.zero_le _)
      · exact (hbb.setCell (p := ⟨w.heap.size + 1, 0, none⟩) (by simp) _).setCell (p := ⟨w.heap.size + 1, 1, none⟩) (by simp) _
  case rest =>
    obtain ⟨rfl, hcut⟩ := hcut
    obtain ⟨p3, c3, r0, r1, ho3, hb3⟩ := hcut.out
    have r2 := cell_lt r0
    go_wp2_with fail
    refine bodyPost_ret (v := .tuple #[.agg #[.int .i64 lim, .slice p3 (l.length + 1) c3], .int .i64 0]) ?r1 rfl ?_
    case r1 => simp [results, Try.results42, go_sem, r0, r1]
    exact ⟨_, rfl, by simpa using ho3, hb3⟩

set_option maxHeartbeats 400000 in
set_option maxRecDepth 100000 in
theorem rput_no (w : World) (lim : Int) (v : Value) (l : List Int) (h : Nums w v l) (i x : Int) (hi : i < 0 ∨ l.length ≤ i) :
    Calls Try.prog 44 #[.agg #[.int .i64 lim, v], .int .i64 i, .int .i64 x] w (RPost w lim l [.int .i64 50]) := by
  have hb0 : ∀ o o', Below w.heap.size w ((w.alloc o).alloc o') := fun o o' => ((Below.refl w.heap.size w).alloc (Nat.le_refl _) o).alloc (by simp) o'
  have HT := Lib.hid (fun o o' => rat_no _ lim v l (own_below h (hb0 o o')) i hi)
  obtain ⟨p, cap, rfl, _⟩ := own_small h
  have H := Lib.hid h
  clear h hi
  go_enter Try.func44, Try.ntmps44
  go_wp2_with fail
  refine (HT.out _ _).mono ?_
  rintro e w1 ⟨rfl, hb1⟩
  have hbw : Below w.heap.size w w1 := (hb0 _ _).trans (hb1.mono (by simp; omega))
  have y1 : w.heap.size + 1 < w1.heap.size := by have := hb1.size; simp at this; omega
  have y0 : w.heap.size < w1.heap.size := by omega
  obtain ⟨hc1, hf1⟩ := bcell hb1
  go_wp2_with fail
  refine bodyPost_ret (v := .tuple #[.agg #[.int .i64 lim, .slice p l.length cap], .int .i64 50]) ?r1 rfl ?_
  case r1 => simp [results, Try.results44, go_sem, hc1]
  have hbb := (hbw.setCell (p := ⟨w.heap.size + 1, 0, none⟩) (by simp) (.int .i64 lim)).setCell (p := ⟨w.heap.size + 1, 1, none⟩) (by simp) (.slice p l.length cap)
  exact ⟨_, rfl, own_below H.out hbb, hbb⟩

set_option maxHeartbeats 400000 in
set_option maxRecDepth 100000 in
theorem rdrop_no (w : World) (lim : Int) (v : Value) (l : List Int) (h : Nums w v l) (i : Int) (hi : i < 0 ∨ l.length ≤ i) :
    Calls Try.prog 43 #[.agg #[.int .i64 lim, v], .int .i64 i] w (RPost w lim l [.int .i64 0, .int .i64 50]) := by
  have hb0 : ∀ o o', Below w.heap.size w ((w.alloc o).alloc o') := fun o o' => ((Below.refl w.heap.size w).alloc (Nat.le_refl _) o).alloc (by simp) o'
  have HT := Lib.hid (fun o o' => rat_no _ lim v l (own_below h (hb0 o o')) i hi)
  obtain ⟨p, cap, rfl, _⟩ := own_small h
  have H := Lib.hid h
  clear h hi
  go_enter Try.func43, Try.ntmps43
  go_wp2_with fail
  refine (HT.out _ _).mono ?_
  rintro e w1 ⟨rfl, hb1⟩
  have hbw : Below w.heap.size w w1 := (hb0 _ _).trans (hb1.mono (by simp; omega))
  have y1 : w.heap.size + 1 < w1.heap.size := by have := hb1.size; simp at this; omega
  have y0 : w.heap.size < w1.heap.size := by omega
  obtain ⟨hc1, hf1⟩ := bcell hb1
  go_wp2_with fail
  refine bodyPost_ret (v := .tuple #[.agg #[.int .i64 lim, .slice p l.length cap], .int .i64 0, .int .i64 50]) ?r1 rfl ?_
  case r1 => simp [results, Try.results43, go_sem, hc1]
  have hbb := (hbw.setCell (p := ⟨w.heap.size + 1, 0, none⟩) (by simp) (.int .i64 lim)).setCell (p := ⟨w.heap.size + 1, 1, none⟩) (by simp) (.slice p l.length cap)
  exact ⟨_, rfl, own_below H.out hbb, hbb⟩
end Go.Proofs.Ytdpchojfgcjbeaa
