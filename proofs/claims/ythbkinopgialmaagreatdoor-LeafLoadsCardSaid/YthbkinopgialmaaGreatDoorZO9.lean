/- Texts of stages 3, 4, 12 and 13 that stand together: ZSLoadR ZLdR ZLdS ZSaveR ZOwn ZRun; no condition but those that each row names. -/
import Derived.Test.YthbkinopgialmaaGreatDoorZO2
import Derived.Test.YthbkinopgialmaaGreatDoorZO3
import Derived.Test.YthbkinopgialmaaGreatDoorZO4
import Derived.Test.YthbkinopgialmaaGreatDoorZO8
/- The document's own Load of a table; no condition but those that each row names. -/
namespace Go.Proofs.YthbkinopgialmaaGreatDoor
open Go.RowKit

/-- The things of the slots ahead of k. -/
def fillTo (n k : Nat) (taken : List Bool) (things : List Int) : List Int := (List.range n).map fun i => if i < k ∧ taken.getD i false = true then things.getD (rank taken i) 0 else 0
theorem fillTo_0 (n : Nat) (taken : List Bool) (things : List Int) : fillTo n 0 taken things = List.replicate n 0 := by
  unfold fillTo
  apply List.ext_getElem
  · simp
  · intro i h1 h2; simp
theorem fillTo_n (n : Nat) (taken : List Bool) (things : List Int) : fillTo n n taken things = fillL n taken things := by
  unfold fillTo fillL
  apply List.map_congr_left
  intro i hi
  simp [List.mem_range.1 hi]
theorem fillTo_len (n k : Nat) (taken : List Bool) (things : List Int) : (fillTo n k taken things).length = n := by simp [fillTo]
theorem fillTo_no {n k : Nat} {taken : List Bool} {things : List Int} (h : taken.getD k false = false) : fillTo n (k + 1) taken things = fillTo n k taken things := by
  unfold fillTo
  apply List.map_congr_left
  intro i _
  by_cases e : i = k
  · subst e
    rw [if_neg (fun c => by rw [h] at c; cases c.2), if_neg (fun c => by omega)]
  · have : (i < k + 1) = (i < k) := propext ⟨fun h => by omega, fun h => by omega⟩
    simp only [this]
theorem fillTo_yes {n k : Nat} {taken : List Bool} {things : List Int} (h : taken.getD k false = true) : fillTo n (k + 1) taken things = (fillTo n k taken things).set k (things.getD (rank taken k) 0) := by
  apply List.ext_getElem?
  intro i
  have e1 : ∀ m, (fillTo n m taken things)[i]? = if i < n then some (if i < m ∧ taken.getD i false = true then things.getD (rank taken i) 0 else 0) else none := fun m => by
    unfold fillTo
    rw [List.getElem?_map]
    by_cases hi : i < n
    · rw [if_pos hi, List.getElem?_range hi]; rfl
    · rw [if_neg hi, List.getElem?_eq_none (by simpa using hi)]; rfl
  rw [List.getElem?_set, fillTo_len, e1, e1]
  by_cases hi : i < n
  · rw [if_pos hi, if_pos hi]
    by_cases e : k = i
    · subst e
      rw [if_pos rfl, if_pos hi, if_pos ⟨by omega, h⟩]
    · rw [if_neg e]
      have : (i < k + 1) = (i < k) := propext ⟨fun h => by omega, fun h => by omega⟩
      simp only [this]
  · rw [if_neg hi, if_neg hi]
    split
    · subst_vars; rw [if_neg hi]
    · rfl

/-- A row's store, the other rows. -/
theorem own3_list {B : Nat} {w : World} {A : Tab} {g1 c1 g2 c2 g3 c3 : Nat} (h : Own3 B w A g1 c1 g2 c2 g3 c3) (i : Nat) (y : Int) :
    Own3 B (w.setCell ⟨g3, i, none⟩ (.int .i64 y)) { A with list := A.list.set i y } g1 c1 g2 c2 g3 c3 := by
  have hst := (h.l.stored i (.int .i64 y)).1
  rw [ints_set] at hst
  exact ⟨own_other h.g _ _ (by simp [Value.ownBlock]; exact h.n13), own_other h.t _ _ (by simp [Value.ownBlock]; exact h.n23), by simpa using hst, h.n12, h.n13, h.n23⟩
theorem own3_taken {B : Nat} {w : World} {A : Tab} {g1 c1 g2 c2 g3 c3 : Nat} (h : Own3 B w A g1 c1 g2 c2 g3 c3) (i : Nat) (y : Bool) :
    Own3 B (w.setCell ⟨g2, i, none⟩ (.bool y)) { A with taken := A.taken.set i y } g1 c1 g2 c2 g3 c3 := by
  have hst := (h.t.stored i (.bool y)).1
  rw [bools_set] at hst
  exact ⟨own_other h.g _ _ (by simp [Value.ownBlock]; exact h.n12), by simpa using hst, own_other h.l _ _ (by simp [Value.ownBlock]; exact fun e => h.n23 e.symm), h.n12, h.n13, h.n23⟩
theorem own3_gens {B : Nat} {w : World} {A : Tab} {g1 c1 g2 c2 g3 c3 : Nat} (h : Own3 B w A g1 c1 g2 c2 g3 c3) (i : Nat) (y : Int) :
    Own3 B (w.setCell ⟨g1, i, none⟩ (.int .i64 y)) { A with gens := A.gens.set i y } g1 c1 g2 c2 g3 c3 := by
  have hst := (h.g.stored i (.int .i64 y)).1
  rw [ints_set] at hst
  exact ⟨by simpa using hst, own_other h.t _ _ (by simp [Value.ownBlock]; exact fun e => h.n12 e.symm), own_other h.l _ _ (by simp [Value.ownBlock]; exact fun e => h.n13 e.symm), h.n12, h.n13, h.n23⟩

set_option maxHeartbeats 2000000 in
set_option maxRecDepth 100000 in
theorem rload_no1 (S : Nat → Prop) (kind : Int) (gens : List Int) (v x y : Value) (w : World) (hv : Lst S w v (ints gens)) (h : ¬ (1 ≤ kind ∧ kind ≤ 3 ∧ 1 ≤ gens.length ∧ gens.length ≤ 4096)) :
    Calls Tryz.prog 40 #[.int .i64 kind, v, x, y] w fun e w' => e = .returned (.tuple #[rv 0 (.slice none 0 0) (.slice none 0 0) (.slice none 0 0), .int .i64 1]) ∧ Below w.heap.size w w' := by
  obtain ⟨p, cp, rfl, hm, hg⟩ := hv
  have e1 := ints_len gens
  rw [e1] at hm ⊢
  have HN := Lib.hid (fun w => snew_no kind gens.length w (by omega))
  clear h hg e1
  go_enter Tryz.func40, Tryz.ntmps40
  go_wp2_with fail
  refine (HN.out _).mono ?_
  rintro e w1 ⟨rfl, hb⟩
  obtain ⟨hc1, hf1⟩ := bcell hb
  have hz : w.heap.size < w1.heap.size := by have := hb.size; simp at this; omega
  have hbw : Below w.heap.size w w1 := ((Below.refl w.heap.size w).alloc (Nat.le_refl _) _).trans (hb.mono (by simp))
  have t0 : w1.cell? ⟨w.heap.size, 0, none⟩ = some (.int .i64 0) := (hc1 _ _ (by simp)).trans (by simp)
  have t1 : w1.cell? ⟨w.heap.size, 1, none⟩ = some (.slice none 0 0) := (hc1 _ _ (by simp)).trans (by simp)
  have t2 : w1.cell? ⟨w.heap.size, 2, none⟩ = some (.slice none 0 0) := (hc1 _ _ (by simp)).trans (by simp)
  have t3 : w1.cell? ⟨w.heap.size, 3, none⟩ = some (.slice none 0 0) := (hc1 _ _ (by simp)).trans (by simp)
  have tf : ∀ j, w1.frozen? ⟨w.heap.size, j, none⟩ = false := fun j => (hf1 _ _ (by simp)).trans (by simp)
  clear hc1 hf1
  go_wp2_with fail
  refine bodyPost_ret (v := .tuple #[rv 0 (.slice none 0 0) (.slice none 0 0) (.slice none 0 0), .int .i64 1]) ?r1 rfl ?_
  case r1 => simp [results, Tryz.results40, go_sem, t0, t1, t2, t3, hz]
  exact ⟨rfl, below_tail hbw w.heap.size (Nat.le_refl _) _ _ _ _ _ (by omega)⟩

set_option maxHeartbeats 4000000 in
set_option maxRecDepth 100000 in
theorem rload_no2 (S : Nat → Prop) (kind : Int) (gens : List Int) (taken : List Bool) (things : List Int) (v x y : Value) (w : World) (hv : Lst S w v (ints gens)) (hx : Lst S w x (bools taken)) (hy : Lst S w y (ints things))
    (h1 : 1 ≤ kind) (h3 : kind ≤ 3) (n1 : 1 ≤ gens.length) (n4 : gens.length ≤ 4096) (h : ¬ ((taken.length = gens.length ∧ standB gens taken gens.length) ∧ things.length = rank taken taken.length)) :
    Calls Tryz.prog 40 #[.int .i64 kind, v, x, y] w fun e w' => e = .returned (.tuple #[rv 0 (.slice none 0 0) (.slice none 0 0) (.slice none 0 0), .int .i64 270]) ∧ Below w.heap.size w w' := by
  have HN := Lib.hid (fun w => snew_own kind gens.length w h1 h3 n1 n4)
  have HSN := Lib.hid (fun W (hb : Below w.heap.size w W) => rslots_no S gens taken v x W (hv.below hb) (hx.below hb))
  have HSY := Lib.hid (fun W (hb : Below w.heap.size w W) => rslots_yes S gens taken v x W (hv.below hb) (hx.below hb))
  obtain ⟨p, cp, rfl, hm, hg⟩ := hv
  obtain ⟨q, cq, rfl, hm2, ht⟩ := hx
  obtain ⟨r, cr, rfl, hm3, hy⟩ := hy
  have e1 := ints_len gens
  have e2 := bools_len taken
  have e3 := ints_len things
  rw [e1] at hm HSN HSY ⊢
  rw [e2] at hm2 HSN HSY ⊢
  rw [e3] at hm3 ⊢
  clear hg ht hy e1 e2 e3
  by_cases hs : taken.length = gens.length ∧ standB gens taken gens.length
  · have hne : ¬ (things.length = rank taken gens.length) := fun k => h ⟨hs, by rw [hs.1]; exact k⟩
    have hb1 : ((rank taken gens.length : Nat) : Int) != ((things.length : Nat) : Int) := by rw [bne_iff_ne]; omega
    have HS := Lib.hid hs
    have hrk := rank_le taken gens.length
    clear h hs hne
    generalize rank taken gens.length = rk at *
    go_enter Tryz.func40, Tryz.ntmps40
    go_wp2_with fail
    refine (HN.out _).mono ?_
    rintro e w1 ⟨g1, c1, g2, c2, g3, c3, rfl, hO, hb⟩
    clear hO
    obtain ⟨hc1, hf1⟩ := bcell hb
    have hz : w.heap.size < w1.heap.size := by have := hb.size; simp at this; omega
    have hbw : Below w.heap.size w w1 := ((Below.refl w.heap.size w).alloc (Nat.le_refl _) _).trans (hb.mono (by simp))
    have t0 : w1.cell? ⟨w.heap.size, 0, none⟩ = some (.int .i64 0) := (hc1 _ _ (by simp)).trans (by simp)
    have t1 : w1.cell? ⟨w.heap.size, 1, none⟩ = some (.slice none 0 0) := (hc1 _ _ (by simp)).trans (by simp)
    have t2 : w1.cell? ⟨w.heap.size, 2, none⟩ = some (.slice none 0 0) := (hc1 _ _ (by simp)).trans (by simp)
    have t3 : w1.cell? ⟨w.heap.size, 3, none⟩ = some (.slice none 0 0) := (hc1 _ _ (by simp)).trans (by simp)
    have tf : ∀ j, w1.frozen? ⟨w.heap.size, j, none⟩ = false := fun j => (hf1 _ _ (by simp)).trans (by simp)
    clear hc1 hf1
    go_wp2_with fail
    refine (HSY.out _ (below_alloc hbw _) HS.out.1 HS.out.2).mono ?_
    rintro e w2 ⟨rfl, rfl⟩
    go_wp2_with fail
    refine bodyPost_ret (v := .tuple #[rv 0 (.slice none 0 0) (.slice none 0 0) (.slice none 0 0), .int .i64 270]) ?r1 rfl ?_
    case r1 => simp [results, Tryz.results40, go_sem, t0, t1, t2, t3, hz]
    exact ⟨rfl, below_tail hbw w.heap.size (Nat.le_refl _) _ _ _ _ _ (by omega)⟩
  · have HS := Lib.hid hs
    clear h hs
    go_enter Tryz.func40, Tryz.ntmps40
    go_wp2_with fail
    refine (HN.out _).mono ?_
    rintro e w1 ⟨g1, c1, g2, c2, g3, c3, rfl, hO, hb⟩
    clear hO
    obtain ⟨hc1, hf1⟩ := bcell hb
    have hz : w.heap.size < w1.heap.size := by have := hb.size; simp at this; omega
    have hbw : Below w.heap.size w w1 := ((Below.refl w.heap.size w).alloc (Nat.le_refl _) _).trans (hb.mono (by simp))
    have t0 : w1.cell? ⟨w.heap.size, 0, none⟩ = some (.int .i64 0) := (hc1 _ _ (by simp)).trans (by simp)
    have t1 : w1.cell? ⟨w.heap.size, 1, none⟩ = some (.slice none 0 0) := (hc1 _ _ (by simp)).trans (by simp)
    have t2 : w1.cell? ⟨w.heap.size, 2, none⟩ = some (.slice none 0 0) := (hc1 _ _ (by simp)).trans (by simp)
    have t3 : w1.cell? ⟨w.heap.size, 3, none⟩ = some (.slice none 0 0) := (hc1 _ _ (by simp)).trans (by simp)
    have tf : ∀ j, w1.frozen? ⟨w.heap.size, j, none⟩ = false := fun j => (hf1 _ _ (by simp)).trans (by simp)
    clear hc1 hf1
    go_wp2_with fail
    refine (HSN.out _ (below_alloc hbw _) HS.out).mono ?_
    rintro e w2 ⟨rfl, rfl⟩
    go_wp2_with fail
    refine bodyPost_ret (v := .tuple #[rv 0 (.slice none 0 0) (.slice none 0 0) (.slice none 0 0), .int .i64 270]) ?r1 rfl ?_
    case r1 => simp [results, Tryz.results40, go_sem, t0, t1, t2, t3, hz]
    exact ⟨rfl, below_tail hbw w.heap.size (Nat.le_refl _) _ _ _ _ _ (by omega)⟩

/-- The document's table while the slots are laid. -/
def midT (kind : Int) (gens : List Int) (taken : List Bool) (things : List Int) (k : Nat) : Tab :=
  ⟨kind, gens.take k ++ List.replicate (gens.length - k) 1, taken.take k ++ List.replicate (taken.length - k) false, fillTo gens.length k taken things⟩
theorem midT_0 (kind : Int) (gens : List Int) (taken : List Bool) (things : List Int) (h : taken.length = gens.length) : midT kind gens taken things 0 = Tab.new kind gens.length := by
  unfold midT Tab.new
  rw [fillTo_0, h]
  simp
theorem midT_n (kind : Int) (gens : List Int) (taken : List Bool) (things : List Int) (h : taken.length = gens.length) : midT kind gens taken things gens.length = Tab.load kind gens taken things := by
  unfold midT Tab.load
  rw [fillTo_n, h]
  have : taken.take gens.length = taken := List.take_of_length_le (by omega)
  simp [this]
theorem take_rep_set {α : Type} (l : List α) (z d : α) (k : Nat) (h : k < l.length) : (l.take k ++ List.replicate (l.length - k) z).set k (l.getD k d) = l.take (k + 1) ++ List.replicate (l.length - (k + 1)) z := by
  rw [List.set_append, if_neg (by simp; omega), List.length_take, Nat.min_eq_left (by omega), Nat.sub_self]
  have e : l.length - k = (l.length - (k + 1)) + 1 := by omega
  rw [e, List.replicate_succ, List.set_cons_zero, List.take_succ_eq_append_getElem h, List.append_assoc]
  simp [List.getD_eq_getElem?_getD, h]
theorem midT_len (kind : Int) (gens : List Int) (taken : List Bool) (things : List Int) (k : Nat) (hk : k ≤ gens.length) (h : taken.length = gens.length) : (midT kind gens taken things k).gens.length = gens.length ∧ (midT kind gens taken things k).taken.length = gens.length ∧ (midT kind gens taken things k).list.length = gens.length := by
  unfold midT
  refine ⟨?_, ?_, fillTo_len _ _ _ _⟩
  · simp; omega
  · simp; omega
theorem own3_len {B : Nat} {w : World} {A A' : Tab} {g1 c1 g2 c2 g3 c3 : Nat} (h : Own3 B w A g1 c1 g2 c2 g3 c3) (e : A = A') : Own3 B w A' g1 c1 g2 c2 g3 c3 := e ▸ h

set_option maxHeartbeats 8000000 in
set_option maxRecDepth 100000 in
theorem rload_ok (S T : Nat → Prop) (kind : Int) (gens : List Int) (taken : List Bool) (things : List Int) (v x y : Value) (w : World) (hT : ∀ x, T x → x < w.heap.size) (hv : Lst S w v (ints gens)) (hx : Lst S w x (bools taken)) (hy : Lst S w y (ints things))
    (h1 : 1 ≤ kind) (h3 : kind ≤ 3) (n1 : 1 ≤ gens.length) (n4 : gens.length ≤ 4096) (hlt : taken.length = gens.length) (ho : standB gens taken gens.length) (hr : things.length = rank taken taken.length) :
    Calls Tryz.prog 40 #[.int .i64 kind, v, x, y] w (TabPost T w (Tab.load kind gens taken things) 0) := by
  have HN := Lib.hid (fun w => snew_own kind gens.length w h1 h3 n1 n4)
  have HSY := Lib.hid (fun W (hb : Below w.heap.size w W) => rslots_yes S gens taken v x W (hv.below hb) (hx.below hb) hlt ho)
  have HGD := Lib.hid (load_good (things := things) h1 h3 n1 n4 hlt ho)
  have HTT := Lib.hid hT
  obtain ⟨p, cp, rfl, hm, hg⟩ := hv
  obtain ⟨q, cq, rfl, hm2, ht⟩ := hx
  obtain ⟨r, cr, rfl, hm3, hy⟩ := hy
  have e1 := ints_len gens
  have e2 := bools_len taken
  have e3 := ints_len things
  rw [e1] at hm HSY ⊢
  rw [e2] at hm2 HSY ⊢
  rw [e3] at hm3 ⊢
  obtain ⟨b1, o1, rfl, _, hd1⟩ := hg 0 _ (ints_at (by omega))
  obtain ⟨b2, o2, rfl, _, hd2⟩ := ht 0 _ (bools_at (by omega))
  have k1 := cell_lt hd1
  have k2 := cell_lt hd2
  simp only at k1 k2
  have HG := Lib.hid (show ∀ j u, (ints gens)[j]? = some u → w.cell? ⟨b1, o1 + j, none⟩ = some u from fun j u hu => by
    obtain ⟨b, off, e, _, hc⟩ := hg j u hu
    injection e with e
    injection e with e1 e2
    subst e1 e2; exact hc)
  have HT := Lib.hid (show ∀ j u, (bools taken)[j]? = some u → w.cell? ⟨b2, o2 + j, none⟩ = some u from fun j u hu => by
    obtain ⟨b, off, e, _, hc⟩ := ht j u hu
    injection e with e
    injection e with e1 e2
    subst e1 e2; exact hc)
  have HY := Lib.hid hy
  have HR := Lib.hid (show things.length = rank taken gens.length by rw [hr, hlt])
  have hrb : (((rank taken gens.length : Nat) : Int) != ((things.length : Nat) : Int)) = false := by rw [bne_eq_false_iff_eq]; have := HR.out; omega
  have HLT := Lib.hid hlt
  have hrk0 := rank_le taken gens.length
  rw [hlt] at HSY ⊢
  clear hg ht hy hr ho e1 e2 e3 hlt hd1 hd2 hm2 hT
  generalize hrg : rank taken gens.length = rg at *
  have HRG := Lib.hid hrg
  clear hrg
  go_enter Tryz.func40, Tryz.ntmps40
  go_wp2_with fail
  refine (HN.out _).mono ?_
  rintro e w1 ⟨g1, c1, g2, c2, g3, c3, rfl, hO, hb⟩
  obtain ⟨hc1, hf1⟩ := bcell hb
  have hz : w.heap.size < w1.heap.size := by have := hb.size; simp at this; omega
  have hbw : Below w.heap.size w w1 := ((Below.refl w.heap.size w).alloc (Nat.le_refl _) _).trans (hb.mono (by simp))
  have t0 : w1.cell? ⟨w.heap.size, 0, none⟩ = some (.int .i64 0) := (hc1 _ _ (by simp)).trans (by simp)
  have t1 : w1.cell? ⟨w.heap.size, 1, none⟩ = some (.slice none 0 0) := (hc1 _ _ (by simp)).trans (by simp)
  have t2 : w1.cell? ⟨w.heap.size, 2, none⟩ = some (.slice none 0 0) := (hc1 _ _ (by simp)).trans (by simp)
  have t3 : w1.cell? ⟨w.heap.size, 3, none⟩ = some (.slice none 0 0) := (hc1 _ _ (by simp)).trans (by simp)
  have tf : ∀ j, w1.frozen? ⟨w.heap.size, j, none⟩ = false := fun j => (hf1 _ _ (by simp)).trans (by simp)
  have l1 := hO.g.lt g1 rfl
  have l2 := hO.t.lt g2 rfl
  have l3 := hO.l.lt g3 rfl
  simp at l1 l2 l3
  have HO := Lib.hid (show Own3 (w.heap.size + 1) w1 (midT kind gens taken things 0) g1 c1 g2 c2 g3 c3 by rw [midT_0 _ _ _ _ HLT.out]; simpa using hO)
  clear hc1 hf1 hO
  go_upto_region 4 with fail
  go_cut [12, 13] (fun s12 s13 wx => s12 = .int .i64 rg ∧ s13 = .int .i64 0 ∧ wx.cell? ⟨w1.heap.size, 0, none⟩ = some (.int .i64 kind) ∧ wx.cell? ⟨w1.heap.size, 1, none⟩ = some (.slice (some ⟨g1, 0, none⟩) gens.length c1) ∧ wx.cell? ⟨w1.heap.size, 2, none⟩ = some (.slice (some ⟨g2, 0, none⟩) gens.length c2) ∧ wx.cell? ⟨w1.heap.size, 3, none⟩ = some (.slice (some ⟨g3, 0, none⟩) gens.length c3) ∧
    wx.cell? ⟨w.heap.size, 0, none⟩ = some (.int .i64 0) ∧ wx.cell? ⟨w.heap.size, 1, none⟩ = some (.slice none 0 0) ∧ wx.cell? ⟨w.heap.size, 2, none⟩ = some (.slice none 0 0) ∧ wx.cell? ⟨w.heap.size, 3, none⟩ = some (.slice none 0 0) ∧ (∀ j, wx.frozen? ⟨w.heap.size, j, none⟩ = false) ∧ Hid (Own3 (w.heap.size + 1) wx (midT kind gens taken things 0) g1 c1 g2 c2 g3 c3) ∧ Below w.heap.size w wx ∧ w1.heap.size < wx.heap.size)
  case first =>
    go_wp2_with fail
    refine (HSY.out _ (below_alloc hbw _)).mono ?_
    rintro e w2 ⟨rfl, rfl⟩
    go_wp2_with fail
    go_meet
    have hc : ∀ (cs : Array Value) j, (w1.alloc (.cells cs 28)).cell? ⟨w1.heap.size, j, none⟩ = cs[j]? := fun cs j => cell_of_row _ _ j cs 28 (0, 0) (heap_alloc_new w1 _)
    have ho : ∀ (o : Obj) j, (w1.alloc o).cell? ⟨w.heap.size, j, none⟩ = w1.cell? ⟨w.heap.size, j, none⟩ := fun o j => World.cell?_alloc_lt _ _ ⟨w.heap.size, j, none⟩ hz
    refine ⟨rfl, rfl, hc _ 0, hc _ 1, hc _ 2, hc _ 3, (ho _ 0).trans t0, (ho _ 1).trans t1, (ho _ 2).trans t2, (ho _ 3).trans t3, fun j => (World.frozen?_alloc_old _ _ _ (Nat.ne_of_lt hz)).trans (tf j), Lib.hid ⟨HO.out.g.alloc _, HO.out.t.alloc _, HO.out.l.alloc _, HO.out.n12, HO.out.n13, HO.out.n23⟩, below_alloc hbw _, by simp⟩
  case rest =>
    obtain ⟨W0, rfl⟩ : ∃ W0 : World, W0 = wc := ⟨_, rfl⟩
    obtain ⟨rfl, rfl, p0, p1, p2, p3, u0, u1, u2, u3, uf, HOW, hbc, hsz⟩ := hcut
    clear t0 t1 t2 t3 tf HO hb hbw
    have HD := Lib.hid (show ∀ W, Keeps (fun y => y = g1 ∨ y = g2 ∨ y = g3) W0 W → (W.cell? ⟨w1.heap.size, 1, none⟩ = some (.slice (some ⟨g1, 0, none⟩) gens.length c1) ∧ W.cell? ⟨w1.heap.size, 2, none⟩ = some (.slice (some ⟨g2, 0, none⟩) gens.length c2) ∧ W.cell? ⟨w1.heap.size, 3, none⟩ = some (.slice (some ⟨g3, 0, none⟩) gens.length c3) ∧ Below w.heap.size w W) from fun W hk =>
      have hn : ¬ (w1.heap.size = g1 ∨ w1.heap.size = g2 ∨ w1.heap.size = g3) := by omega
      ⟨(hk.cell (p := ⟨w1.heap.size, 1, none⟩) hsz hn).trans p1, (hk.cell (p := ⟨w1.heap.size, 2, none⟩) hsz hn).trans p2, (hk.cell (p := ⟨w1.heap.size, 3, none⟩) hsz hn).trans p3, below_keeps hbc hk (fun y e => by omega)⟩)
    have HU := Lib.hid (show ∀ W, Keeps (fun y => y = g1 ∨ y = g2 ∨ y = g3) W0 W → (W.cell? ⟨w1.heap.size, 0, none⟩ = some (.int .i64 kind) ∧ W.cell? ⟨w.heap.size, 0, none⟩ = some (.int .i64 0) ∧ W.cell? ⟨w.heap.size, 1, none⟩ = some (.slice none 0 0) ∧ W.cell? ⟨w.heap.size, 2, none⟩ = some (.slice none 0 0) ∧ W.cell? ⟨w.heap.size, 3, none⟩ = some (.slice none 0 0) ∧ (∀ j, W.frozen? ⟨w.heap.size, j, none⟩ = false)) from fun W hk =>
      have hn : ¬ (w1.heap.size = g1 ∨ w1.heap.size = g2 ∨ w1.heap.size = g3) := by omega
      have hn2 : ¬ (w.heap.size = g1 ∨ w.heap.size = g2 ∨ w.heap.size = g3) := by omega
      have hz2 : w.heap.size < W0.heap.size := by omega
      ⟨(hk.cell (p := ⟨w1.heap.size, 0, none⟩) hsz hn).trans p0, (hk.cell (p := ⟨w.heap.size, 0, none⟩) hz2 hn2).trans u0, (hk.cell (p := ⟨w.heap.size, 1, none⟩) hz2 hn2).trans u1, (hk.cell (p := ⟨w.heap.size, 2, none⟩) hz2 hn2).trans u2, (hk.cell (p := ⟨w.heap.size, 3, none⟩) hz2 hn2).trans u3, fun j => (World.frozen?_of_block (hk.block w.heap.size hz2 hn2)).trans (uf j)⟩)
    clear p0 p1 p2 p3 u0 u1 u2 u3 uf hbc
    go_wp2_with fail
    go_loopw [14, 15] (fun at' i wr => ∃ k : Nat, k ≤ gens.length ∧ i = .int .i64 k ∧ at' = .int .i64 (rank taken k : Nat) ∧ Hid (Own3 (w.heap.size + 1) wr (midT kind gens taken things k) g1 c1 g2 c2 g3 c3) ∧ Hid (Keeps (fun y => y = g1 ∨ y = g2 ∨ y = g3) W0 wr)) (fun _ i _ => gens.length - (intOf i).toNat)
    case atStart => exact ⟨0, Nat.zero_le _, rfl, rfl, HOW, Lib.hid (Keeps.refl _ _)⟩
    case round =>
      obtain ⟨k, hk, rfl, rfl, HO, HKP⟩ := hrel
      obtain ⟨lg, lt', ll⟩ := midT_len kind gens taken things k hk HLT.out
      by_cases hlt : k < gens.length
      · have z0 : (0 : Int) ≤ (k : Int) := by omega
        have z1 : (k : Int) < (gens.length : Int) := by omega
        have hrk := rank_le taken k
        have hrk1 := rank_mono taken (i := k + 1) (j := gens.length) (by omega)
        have hs := rank_succ taken k
        have HTS := Lib.hid (take_rep_set gens 1 0 k hlt)
        have HTB := Lib.hid (take_rep_set taken false false k (by have := HLT.out; omega))
        have HFY := Lib.hid (fun h => fillTo_yes (n := gens.length) (k := k) (taken := taken) (things := things) h)
        have HFN := Lib.hid (fun h => fillTo_no (n := gens.length) (k := k) (taken := taken) (things := things) h)
        rw [HRG.out] at hrk1
        have HSS := Lib.hid hs
        have HRK := Lib.hid hrk1
        clear hs hrk1
        generalize hgk : gens.getD k 0 = gk at *
        generalize htk : taken.getD k false = tk at *
        generalize hrn : rank taken k = rn at *
        have HGK := Lib.hid hgk
        have HTK := Lib.hid htk
        have HRN := Lib.hid hrn
        clear hgk htk hrn
        obtain ⟨f1, f2, f3, hbk⟩ := HD.out wr HKP.out
        have q1 : wr.cell? ⟨b1, o1 + k, none⟩ = some (.int .i64 gk) := (hbk.cell (p := ⟨b1, o1 + k, none⟩) k1).trans (by rw [← HGK.out]; exact HG.out k _ (ints_at hlt))
        have hog := HO.out.g
        rw [lg] at hog
        have q2 := hog.cellAt k (by omega)
        rw [ints_at (by omega)] at q2
        have q3 := hog.frozenAt k
        clear hog
        go_upto_region 11 with fail
        go_cut [] (fun wx => Hid (Own3 (w.heap.size + 1) wx { midT kind gens taken things k with gens := (midT kind gens taken things k).gens.set k gk } g1 c1 g2 c2 g3 c3) ∧ Hid (Keeps (fun y => y = g1 ∨ y = g2 ∨ y = g3) W0 wx))
        case first =>
          go_still_tail 8, (by kernel_rfl)
          change wpList _ _ _ _ _ wr.drew
          go_wp2_with fail
          go_meet
          have h4 := own3_gens HO.out k gk
          exact ⟨Lib.hid ⟨own_drew h4.g, own_drew h4.t, own_drew h4.l, h4.n12, h4.n13, h4.n23⟩, Lib.hid (HKP.out.setS _ _ (.inl rfl)).drew⟩
        case rest =>
          obtain ⟨W1, rfl⟩ : ∃ W1 : World, W1 = wc := ⟨_, rfl⟩
          obtain ⟨HO2, HKP2⟩ := hcut
          clear f1 f2 f3 q1 q2 q3 hbk
          obtain ⟨f1, f2, f3, hbk⟩ := HD.out W1 HKP2.out
          have q1 : W1.cell? ⟨b2, o2 + k, none⟩ = some (.bool tk) := (hbk.cell (p := ⟨b2, o2 + k, none⟩) k2).trans (by rw [← HTK.out]; exact HT.out k _ (bools_at (by have := HLT.out; omega)))
          have hot := HO2.out.t
          simp only at hot
          rw [lt'] at hot
          have q2 := hot.cellAt k (by omega)
          rw [bools_at (by omega)] at q2
          have q3 := hot.frozenAt k
          clear hot
          go_upto_region 12 with fail
          go_cut [] (fun wx => Hid (Own3 (w.heap.size + 1) wx { midT kind gens taken things k with gens := (midT kind gens taken things k).gens.set k gk, taken := (midT kind gens taken things k).taken.set k tk } g1 c1 g2 c2 g3 c3) ∧ Hid (Keeps (fun y => y = g1 ∨ y = g2 ∨ y = g3) W0 wx))
          case first =>
            go_still_tail 8, (by kernel_rfl)
            change wpList _ _ _ _ _ W1.drew
            go_wp2_with fail
            go_meet
            have h4 := own3_taken HO2.out k tk
            exact ⟨Lib.hid ⟨own_drew h4.g, own_drew h4.t, own_drew h4.l, h4.n12, h4.n13, h4.n23⟩, Lib.hid (HKP2.out.setS _ _ (.inr (.inl rfl))).drew⟩
          case rest =>
            obtain ⟨W2, rfl⟩ : ∃ W2 : World, W2 = wc := ⟨_, rfl⟩
            obtain ⟨HO3, HKP3⟩ := hcut
            clear f1 f2 f3 q1 q2 q3 hbk
            obtain ⟨f1, f2, f3, hbk⟩ := HD.out W2 HKP3.out
            have q1 : W2.cell? ⟨b2, o2 + k, none⟩ = some (.bool tk) := (hbk.cell (p := ⟨b2, o2 + k, none⟩) k2).trans (by rw [← HTK.out]; exact HT.out k _ (bools_at (by have := HLT.out; omega)))
            have e1 : { midT kind gens taken things k with gens := (midT kind gens taken things k).gens.set k gk, taken := (midT kind gens taken things k).taken.set k tk } = (⟨kind, gens.take (k + 1) ++ List.replicate (gens.length - (k + 1)) 1, taken.take (k + 1) ++ List.replicate (taken.length - (k + 1)) false, fillTo gens.length k taken things⟩ : Tab) := by
              unfold midT
              simp only
              rw [HTS.out, HTB.out]
            have HE1 := Lib.hid e1
            clear e1
            cases tk with
            | true =>
              have hrl : rn < things.length := by have h1 := HSS.out; rw [if_pos rfl] at h1; have h2 := HRK.out; rw [h1] at h2; have := HR.out; omega
              obtain ⟨b3, o3, rfl, _, hd3⟩ := HY.out rn _ (ints_at hrl)
              have q4 : W2.cell? ⟨b3, o3 + rn, none⟩ = some (.int .i64 (things.getD rn 0)) := (hbk.cell (p := ⟨b3, o3 + rn, none⟩) (cell_lt hd3)).trans hd3
              have hol := HO3.out.l
              simp only at hol
              rw [ll] at hol
              have q2 := hol.cellAt k (by omega)
              rw [ints_at (by omega)] at q2
              have q3 := hol.frozenAt k
              have z2 : (0 : Int) ≤ (rn : Int) := by omega
              have z3 : (rn : Int) < (things.length : Int) := by omega
              clear hol hd3
              have hst := HFY.out rfl
              have HST := Lib.hid hst
              clear hst
              generalize things.getD rn 0 = th at *
              go_upto_region 14 with fail
              go_cut [] (fun wx => Hid (Own3 (w.heap.size + 1) wx (midT kind gens taken things (k + 1)) g1 c1 g2 c2 g3 c3) ∧ Hid (Keeps (fun y => y = g1 ∨ y = g2 ∨ y = g3) W0 wx))
              case first =>
                go_still_tail 8, (by kernel_rfl)
                change wpList _ _ _ _ _ W2.drew
                go_wp2_with fail
                go_meet
                have h4 := own3_list (own3_len HO3.out HE1.out) k th
                simp only at h4
                rw [← HST.out] at h4
                exact ⟨Lib.hid ⟨own_drew h4.g, own_drew h4.t, own_drew h4.l, h4.n12, h4.n13, h4.n23⟩, Lib.hid (HKP3.out.setS _ _ (.inr (.inr rfl))).drew⟩
              case rest =>
                obtain ⟨HO4, HKP4⟩ := hcut
                clear f1 f2 f3 q1 q2 q3 q4 hbk
                go_wp2_with fail
                go_roundw
                case rel => exact ⟨k + 1, by omega, by go_num, by rw [HSS.out]; go_num, HO4, HKP4⟩
                case measure => simp [intOf]; omega
            | false =>
              have HO4 := Lib.hid (own3_len (own3_len HO3.out HE1.out) (show _ = midT kind gens taken things (k + 1) by unfold midT; rw [HFN.out rfl]))
              go_wp2_with fail
              go_roundw
              case rel => exact ⟨k + 1, by omega, by go_num, by rw [HSS.out]; rfl, HO4, HKP3⟩
              case measure => simp [intOf]; omega
      · obtain rfl : k = gens.length := by omega
        obtain ⟨v0, t0, t1, t2, t3, tf⟩ := HU.out wr HKP.out
        obtain ⟨f1, f2, f3, hbk⟩ := HD.out wr HKP.out
        have hO := own3_len HO.out (midT_n kind gens taken things HLT.out)
        have hRT := Lib.hid (RT.of_own3 (S := fun y => T y ∨ y = w.heap.size) hO HGD.out (fun y hy => by rcases hy with hy | rfl; have := HTT.out y hy; omega; omega))
        clear hO
        go_wp2_with fail
        refine bodyPost_ret (v := .tuple #[rv kind (.slice (some ⟨g1, 0, none⟩) gens.length c1) (.slice (some ⟨g2, 0, none⟩) gens.length c2) (.slice (some ⟨g3, 0, none⟩) gens.length c3), .int .i64 0]) ?r1 rfl ?_
        case r1 => simp [results, Tryz.results40, go_sem, t0, t1, t2, t3]
        have hk4 := fun u0 u1 u2 u3 => ((((Keeps.refl (fun y => y = w.heap.size) wr).setS ⟨w.heap.size, 0, none⟩ u0 rfl).setS ⟨w.heap.size, 1, none⟩ u1 rfl).setS ⟨w.heap.size, 2, none⟩ u2 rfl).setS ⟨w.heap.size, 3, none⟩ u3 rfl
        have hr := hRT.out
        rw [show (Tab.load kind gens taken things).gens.length = gens.length from rfl, show (Tab.load kind gens taken things).taken.length = gens.length from HLT.out, show (Tab.load kind gens taken things).list.length = gens.length from fillL_len _ _ _] at hr
        exact ⟨_, _, _, rfl, (hr.keeps ((hk4 _ _ _ _).mono fun b hb => .inr hb)).mono fun b _ hb => .inl hb, below_keeps hbk (hk4 _ _ _ _) (fun b hb => by omega)⟩
end Go.Proofs.YthbkinopgialmaaGreatDoor
/- The document's own Load of a leaf, where the slots can't be: the error; no condition but those that each row names. -/
namespace Go.Proofs.YthbkinopgialmaaGreatDoor
open Go.RowKit Tsk

theorem lst_zeros (w : World) (m : Nat) (hm : m ≤ 9223372036854775807) : Lst (fun _ => False) (w.alloc (.cells (madeCells #[.int .i64 0] m) 3)) (.slice (some ⟨w.heap.size, 0, none⟩) m m) (ints (List.replicate m 0)) := by
  refine ⟨_, m, by rw [ints_len, List.length_replicate], by rw [ints_len, List.length_replicate]; exact hm, fun j x hx => ⟨_, 0, rfl, id, ?_⟩⟩
  have hj : j < m := by
    have := (List.getElem?_eq_some_iff.1 hx).1
    rwa [ints_len, List.length_replicate] at this
  rw [Nat.zero_add, has_cell (has_new w (.cells (madeCells #[.int .i64 0] m) 3) _ rfl)]
  have h1 : (ints (List.replicate m 0))[j]? = some (.int .i64 0) := by simp [ints, hj]
  rw [h1] at hx
  cases hx
  simp [madeCells, hj, Nat.mod_one]
set_option maxHeartbeats 2000000 in
set_option maxRecDepth 100000 in
theorem rload13_no1 (gens : List Int) (v x y : Value) (w : World) (hv : Lst (fun _ => False) w v (ints gens)) (h8 : ¬ gens.length = 8) :
    Calls Tryz.prog 12 #[v, x, y] w fun e w' => e = .returned (.tuple #[lv 0 (.slice none 0 0) (.slice none 0 0) (.slice none 0 0) (.slice none 0 0), .int .i64 270]) ∧ Below w.heap.size w w' := by
  obtain ⟨p, cp, rfl, _, _⟩ := hv
  rw [ints_len]
  have hd : ((gens.length : Int) != 8) = true := by rw [bne_iff_ne]; omega
  have hd2 : ¬ gens.length = 8 := h8
  obtain ⟨WA, hWA⟩ : ∃ WA, WA = w.alloc (.cells #[.int .i64 0, .slice none 0 0, .slice none 0 0, .slice none 0 0, .slice none 0 0] LT) := ⟨_, rfl⟩
  have HB := Lib.hid (show Below w.heap.size w WA from by rw [hWA]; exact (Below.refl _ _).alloc (Nat.le_refl _) _)
  have HT := Lib.hid (show HasL WA w.heap.size 0 (.slice none 0 0) (.slice none 0 0) (.slice none 0 0) (.slice none 0 0) from by rw [hWA]; exact hasL_new _ _ _ _ _ _)
  have HW := Lib.hid hWA
  clear hWA
  obtain ⟨y0, y1, y2, y3, y4⟩ := HT.out.cells
  have fr := fun j => has_free HT.out j
  have l0 : w.heap.size < WA.heap.size := has_lt HT.out
  go_enter Tryz.func12, Tryz.ntmps12
  go_upto_region 1 with fail
  rw [← HW.out]
  go_wp2_with fail
  refine bodyPost_ret (v := .tuple #[lv 0 (.slice none 0 0) (.slice none 0 0) (.slice none 0 0) (.slice none 0 0), .int .i64 270]) (by simp [results, Tryz.results12, go_sem, y0, y1, y2, y3, y4]) rfl ?_
  have hb5 := below5 HB.out (g := w.heap.size) (Nat.le_refl _) (.int .i64 0) (.slice none 0 0) (.slice none 0 0) (.slice none 0 0) (.slice none 0 0)
  exact ⟨rfl, hb5⟩
set_option maxHeartbeats 4000000 in
set_option maxRecDepth 100000 in
theorem rload13_no2 (gens : List Int) (taken : List Bool) (m : Nat) (hm : 8 * m ≤ 281474976710656) (py : Option Addr) (cy : Nat) (v x : Value) (w : World) (hv : Lst (fun _ => False) w v (ints gens)) (hx : Lst (fun _ => False) w x (bools taken)) (h8 : gens.length = 8) (h : ¬ ((taken.length = gens.length ∧ standB gens taken gens.length) ∧ m = rank taken taken.length)) :
    Calls Tryz.prog 12 #[v, x, .slice py m cy] w fun e w' => e = .returned (.tuple #[lv 0 (.slice none 0 0) (.slice none 0 0) (.slice none 0 0) (.slice none 0 0), .int .i64 270]) ∧ Below w.heap.size w w' := by
  have hmk := fun w => run_make_row' (P := Tryz.prog) 25 3 (.int .i64 0) 8 Tryz.underlying25 Tryz.info3 rfl .i64 .i64 m (by omega) (by omega) w
  have HR := Lib.hid (fun W (hb : Below w.heap.size w W) u (hu : Lst (fun _ => False) W u (ints (List.replicate m 0))) => rload_no2 (fun _ => False) 2 gens taken (List.replicate m 0) v x u W (hv.below hb) (hx.below hb) hu (by omega) (by omega) (by omega) (by omega) (by rw [List.length_replicate]; exact h))
  have HZ := Lib.hid (fun W => lst_zeros W m (by omega))
  obtain ⟨p, cp, rfl, _, _⟩ := hv
  rw [ints_len] at HR ⊢
  rw [h8] at HR ⊢
  clear h h8 hx hm
  obtain ⟨WA, hWA⟩ : ∃ WA, WA = w.alloc (.cells #[.int .i64 0, .slice none 0 0, .slice none 0 0, .slice none 0 0, .slice none 0 0] LT) := ⟨_, rfl⟩
  have HB := Lib.hid (show Below w.heap.size w WA ∧ WA.heap.size = w.heap.size + 1 from by rw [hWA]; exact ⟨(Below.refl _ _).alloc (Nat.le_refl _) _, by simp⟩)
  have HT := Lib.hid (show HasL WA w.heap.size 0 (.slice none 0 0) (.slice none 0 0) (.slice none 0 0) (.slice none 0 0) from by rw [hWA]; exact hasL_new _ _ _ _ _ _)
  have HW := Lib.hid hWA
  clear hWA
  go_enter Tryz.func12, Tryz.ntmps12
  go_upto_region 1 with fail
  rw [← HW.out]
  go_wp2_with fail
  refine (HR.out _ (HB.out.1.alloc HB.out.1.size _) _ (HZ.out WA)).mono ?_
  rintro e w1 ⟨rfl, hb1⟩
  have HB1 := Lib.hid (bnext (HB.out.1.alloc HB.out.1.size _) hb1)
  have hT1 : HasL w1 w.heap.size 0 (.slice none 0 0) (.slice none 0 0) (.slice none 0 0) (.slice none 0 0) := HasL.below (has_old HT.out _) hb1
  obtain ⟨y0, y1, y2, y3, y4⟩ := hT1.cells
  have fr := fun j => has_free hT1 j
  have l0 : w.heap.size < w1.heap.size := has_lt hT1
  clear hb1 hT1
  go_wp2_with fail
  refine bodyPost_ret (v := .tuple #[lv 0 (.slice none 0 0) (.slice none 0 0) (.slice none 0 0) (.slice none 0 0), .int .i64 270]) (by simp [results, Tryz.results12, go_sem, y0, y1, y2, y3, y4, l0]) rfl ?_
  have hb5 := below5 HB1.out (g := w.heap.size) (Nat.le_refl _) (.int .i64 0) (.slice none 0 0) (.slice none 0 0) (.slice none 0 0) (.slice none 0 0)
  exact ⟨rfl, hb5.alloc hb5.size _⟩
end Go.Proofs.YthbkinopgialmaaGreatDoor
/- The document's own Load of a leaf, where the slots can be; no condition but those that each row names.  -/
namespace Go.Proofs.YthbkinopgialmaaGreatDoor
open Go.RowKit Tsk

/-- What the document's Load answers. -/
def LoadR13 (X : Nat → Prop) (w : World) (ok : Prop) (A : Tab) (T : Nat → Tk) (e : Ending) (w' : World) : Prop :=
  (ok ∧ ∃ gs ts ls ks, e = .returned (.tuple #[lv 2 gs ts ls ks, .int .i64 0]) ∧ DL X w' A T gs ts ls ks ∧ Below w.heap.size w w') ∨
  (¬ ok ∧ e = .returned (.tuple #[lv 0 (.slice none 0 0) (.slice none 0 0) (.slice none 0 0) (.slice none 0 0), .int .i64 270]) ∧ Below w.heap.size w w')
set_option maxHeartbeats 4000000 in
set_option maxRecDepth 100000 in
theorem rload13_mid (X : Nat → Prop) (gens : List Int) (taken : List Bool) (m : Nat) (TT : Nat → Tk) (hm : 8 * m ≤ 281474976710656) (py : Option Addr) (cy : Nat) (v x : Value) (w : World) (hX : ∀ x, X x → x < w.heap.size) (hv : Lst (fun _ => False) w v (ints gens)) (hx : Lst (fun _ => False) w x (bools taken)) (hy : Tasks w (.slice py m cy) m TT) (hj : ∀ j, j < m → JobsX X w (TT j).s (TT j).n (TT j).f) (h8 : gens.length = 8) (h : (taken.length = gens.length ∧ standB gens taken gens.length) ∧ m = rank taken taken.length) :
    Calls Tryz.prog 12 #[v, x, .slice py m cy] w (LoadR13 X w (∀ j, j < m → okTk (TT j)) (Tab.load 2 gens taken (List.replicate m 0)) (fillT taken TT 8)) := by
  obtain ⟨X2, hX2⟩ : ∃ X2 : Nat → Prop, X2 = fun x => X x ∨ x = w.heap.size := ⟨_, rfl⟩
  have HX2 := Lib.hid (show (∀ x, X2 x → x < w.heap.size + 1) ∧ (∀ x, X x → X2 x) ∧ X2 w.heap.size from by rw [hX2]; exact ⟨fun x hx => by rcases hx with hx | hx; have := hX x hx; omega; omega, fun x hx => .inl hx, .inr rfl⟩)
  have HJ := Lib.hid (fun j hj' => (hj j hj').mono (Y := X2) (fun x hx hy => by rw [hX2] at hy; rcases hy with hy | hy; exact hy; omega))
  have hmk := fun w => run_make_row' (P := Tryz.prog) 25 3 (.int .i64 0) 8 Tryz.underlying25 Tryz.info3 rfl .i64 .i64 m (by omega) (by omega) w
  have hmk8 : ∀ w, (Instr.makeSlice 29 (.int .i64 8) (.int .i64 8)).run Tryz.prog w = .ok (.slice (some ⟨w.heap.size, 0, none⟩) 8 8) (w.alloc (.cells (tkZ 8) KT)) := fun w => make_tasks 8 (by omega) w
  have HR := Lib.hid (fun W (hb : Below w.heap.size w W) (hs : w.heap.size + 1 ≤ W.heap.size) u (hu : Lst (fun _ => False) W u (ints (List.replicate m 0))) => (rload_ok (fun _ => False) X2 2 gens taken (List.replicate m 0) v x u W (fun x hx => Nat.lt_of_lt_of_le (HX2.out.1 x hx) hs) (hv.below hb) (hx.below hb) hu (by omega) (by omega) (by omega) (by omega) h.1.1 h.1.2 (by rw [List.length_replicate]; exact h.2)).mono (R' := fun e w' => ∃ gs ts ls, e = .returned (.tuple #[rv 2 gs ts ls, .int .i64 0]) ∧ RT X2 w' (Tab.load 2 gens taken (List.replicate m 0)) gs ts ls ∧ Below W.heap.size W w') (by rintro e w' ⟨gs, ts, ls, rfl, a, b⟩; exact ⟨gs, ts, ls, rfl, a, b⟩))
  have HZ := Lib.hid (fun W => lst_zeros W m (by omega))
  have HRK := Lib.hid (show ∀ i, i < 8 → taken.getD i false = true → rank taken i < m from fun i hi hti => by
    have hA := ok8_load (L := List.replicate 8 0) h8 h.1.1 h.1.2 (by simp)
    have hri : (loadTo 2 gens taken (List.replicate 8 0)).idxs.length = m := by rw [idxs_count, h.2, h.1.1]
    have h1 := idxs_rank (loadTo 2 gens taken (List.replicate 8 0)) (t_len2 hA hti) hti
    have h2 := (List.getElem?_eq_some_iff.1 h1).1
    rw [hri] at h2
    exact h2)
  have HY := Lib.hid hy
  have HXT := Lib.hid hx
  have HM := Lib.hid (show m = rank taken 8 from by rw [h.2, h.1.1, h8])
  have HL8 := Lib.hid (show taken.length = 8 from by rw [h.1.1, h8])
  have HVA := Lib.hid (fun W (hb : Below w.heap.size w W) k (hk : k < m) => rvalid (TT k).p (TT k).s (TT k).n (TT k).f (TT k).k W ((hj k hk).1.below hb))
  obtain ⟨p, cp, rfl, _, _⟩ := hv
  obtain ⟨p2, cp2, rfl, _, _⟩ := id hx
  rw [ints_len] at HR ⊢
  rw [h8] at HR ⊢
  rw [bools_len] at HR HXT ⊢
  rw [HL8.out] at HR HXT ⊢
  generalize hAA : Tab.load 2 gens taken (List.replicate m 0) = A at *
  clear h h8 hx hm hy hj hX hX2 hAA
  obtain ⟨WA, hWA⟩ : ∃ WA, WA = w.alloc (.cells #[.int .i64 0, .slice none 0 0, .slice none 0 0, .slice none 0 0, .slice none 0 0] LT) := ⟨_, rfl⟩
  have HB := Lib.hid (show Below w.heap.size w WA ∧ WA.heap.size = w.heap.size + 1 from by rw [hWA]; exact ⟨(Below.refl _ _).alloc (Nat.le_refl _) _, by simp⟩)
  have HT := Lib.hid (show HasL WA w.heap.size 0 (.slice none 0 0) (.slice none 0 0) (.slice none 0 0) (.slice none 0 0) from by rw [hWA]; exact hasL_new _ _ _ _ _ _)
  have HW := Lib.hid hWA
  clear hWA
  go_enter Tryz.func12, Tryz.ntmps12
  go_upto_region 1 with fail
  rw [← HW.out]
  go_wp2_with fail
  refine (HR.out _ (HB.out.1.alloc HB.out.1.size _) (by have := HB.out.2; simp; omega) _ (HZ.out WA)).mono ?_
  rintro e w1 ⟨gs, ts, ls, rfl, hrt, hb1⟩
  obtain ⟨p1, n1, c1, p3, n3, c3, p4, n4, c4, rfl, rfl, rfl⟩ := hrt.sl3
  have hs1 := hb1.size
  obtain ⟨W2, hW2⟩ : ∃ W2, W2 = w1.alloc (.cells #[.int .i64 2, .slice p1 n1 c1, .slice p3 n3 c3, .slice p4 n4 c4] T3) := ⟨_, rfl⟩
  have HL := Lib.hid (show w.heap.size < w1.heap.size ∧ W2.heap.size = w1.heap.size + 1 ∧ Below w.heap.size w W2 from by
    have := HB.out.2
    have hb2 := bnext (HB.out.1.alloc HB.out.1.size _) hb1
    rw [hW2]
    simp at hs1
    exact ⟨by omega, by simp, hb2.alloc hb2.size _⟩)
  have HT2 := Lib.hid (show Has W2 w1.heap.size (.cells #[.int .i64 2, .slice p1 n1 c1, .slice p3 n3 c3, .slice p4 n4 c4] T3) from by rw [hW2]; exact has_new _ _ _ rfl)
  have HT1 := Lib.hid (show HasL W2 w.heap.size 0 (.slice none 0 0) (.slice none 0 0) (.slice none 0 0) (.slice none 0 0) from by rw [hW2]; exact has_old (HasL.below (has_old HT.out _) hb1) _)
  have HRT := Lib.hid (show RT X2 W2 A (.slice p1 n1 c1) (.slice p3 n3 c3) (.slice p4 n4 c4) from by rw [hW2]; exact hrt.below ((Below.refl _ _).alloc (Nat.le_refl _) _))
  have HW2 := Lib.hid hW2
  have c0 := has_cell HT2.out 0
  have c1' := has_cell HT2.out 1
  have c2' := has_cell HT2.out 2
  have c3' := has_cell HT2.out 3
  simp only [List.getElem?_toArray, List.getElem?_cons_zero, List.getElem?_cons_succ] at c0 c1' c2' c3'
  have l1 : w1.heap.size < W2.heap.size := has_lt HT2.out
  clear hb1 hs1 hrt hW2
  go_upto_region 4 with fail
  rw [← HW2.out]
  go_upto_region 6 with fail
  go_cut [10] (fun s10 wx => ∃ b g, s10 = .pointer (some ⟨b, 0, none⟩) ∧ HasL wx b 2 (.slice p1 n1 c1) (.slice p3 n3 c3) (.slice p4 n4 c4) (.slice (some ⟨g, 0, none⟩) 8 8) ∧ wx.ownsRow W2.heap.size KT 8 (.slice (some ⟨g, 0, none⟩) 8 8) 8 (tkL (fun _ => tk0) 8) ∧ b ≠ g ∧ W2.heap.size ≤ b ∧ Below W2.heap.size W2 wx)
  case first =>
    go_region
    all_goals
      go_wp2_with fail
      go_meet
      first
        | refine ⟨W2.heap.size + 1, W2.heap.size, rfl, ?_, ?_, ?_, ?_, ?_⟩
        | refine ⟨W2.heap.size, W2.heap.size + 1, rfl, ?_, ?_, ?_, ?_, ?_⟩
      · repeat (first | exact has_new _ _ _ (by first | rfl | (simp; done)) | refine has_old ?_ _ | refine has_drew ?_)
      · repeat (first | exact own_tkZ _ 8 _ (by first | rfl | (simp; done)) (by simp) (by omega) | refine World.ownsRow.alloc ?_ _ | refine own_drew8 ?_)
      · simp
      · simp
      · repeat (first | exact Below.refl _ _ | refine below_drew ?_ | refine Below.alloc ?_ (by simp) _)
  case rest =>
    obtain ⟨b, g, rfl, hl, ho, hbg, hWb, hbw⟩ := hcut
    have HL5 := Lib.hid hl
    have HO := Lib.hid ho
    have HBW := Lib.hid hbw
    clear hl ho hbw
    go_wp2_with fail
    go_loopw [11, 12] (fun av iv wr => ∃ i : Nat, iv = .int .i64 i ∧ av = .int .i64 (rank taken i : Nat) ∧ i ≤ 8 ∧ Hid (∀ j, j < rank taken i → okTk (TT j)) ∧ Hid (HasL wr b 2 (.slice p1 n1 c1) (.slice p3 n3 c3) (.slice p4 n4 c4) (.slice (some ⟨g, 0, none⟩) 8 8)) ∧ Hid (wr.ownsRow W2.heap.size KT 8 (.slice (some ⟨g, 0, none⟩) 8 8) 8 (tkL (fillT taken TT i) 8)) ∧ Hid (Below W2.heap.size W2 wr)) (fun _ iv _ => 8 - (intOf iv).toNat)
    case atStart => exact ⟨0, rfl, rfl, Nat.zero_le _, Lib.hid (fun j hj => absurd hj (Nat.not_lt_zero _)), HL5, Lib.hid (by rw [fillT_0]; exact HO.out), HBW⟩
    case round =>
      obtain ⟨i, rfl, rfl, hi, HOK, HLW, HOW, HBX⟩ := hrel
      obtain ⟨a0, a1, a2, a3, a4⟩ := HLW.out.cells
      have z0 : (0 : Int) ≤ (i : Int) := by omega
      by_cases hi8 : i < 8
      · have z1 : (i : Int) < 8 := by omega
        have hct : ∃ bt ot, p2 = some ⟨bt, ot, none⟩ ∧ wr.cell? ⟨bt, ot + i, none⟩ = some (.bool (taken.getD i false)) := by
          obtain ⟨_, _, e, _, hc⟩ := HXT.out
          simp only [Value.slice.injEq] at e
          obtain ⟨b', off, e2, _, hcell⟩ := hc i _ (bools_at (by have := HL8.out; omega))
          exact ⟨b', off, by rw [e.1]; exact e2, ((bnext HL.out.2.2 HBX.out).cell (p := ⟨b', off + i, none⟩) (cell_lt hcell)).trans hcell⟩
        obtain ⟨bt, ot, rfl, ct⟩ := hct
        cases hti : taken.getD i false with
        | false =>
          rw [hti] at ct
          have HF := Lib.hid (fillT_no (TT := TT) hti)
          have HRS := Lib.hid (show rank taken (i + 1) = rank taken i from by rw [rank_succ, if_neg (by rw [hti]; simp)]; rfl)
          clear hti
          go_wp2_with fail
          go_roundw
          case rel => exact ⟨i + 1, by go_num, by rw [HRS.out], by omega, Lib.hid (by rw [HRS.out]; exact HOK.out), HLW, Lib.hid (by rw [HF.out]; exact HOW.out), HBX⟩
          case measure => simp [intOf]; omega
        | true =>
          rw [hti] at ct
          have hk := HRK.out i hi8 hti
          have HF := Lib.hid (fillT_yes (TT := TT) hti)
          have HRS := Lib.hid (show rank taken (i + 1) = rank taken i + 1 from by rw [rank_succ, if_pos hti])
          obtain ⟨_, _, e, _, hc⟩ := HY.out.below (bnext HL.out.2.2 HBX.out)
          simp only [Value.slice.injEq] at e
          obtain ⟨bk, ok, e2, d0, d1, d2, d3, d4, d5, d6, d7, hJ⟩ := hc (rank taken i) hk
          have e3 : py = some ⟨bk, ok, none⟩ := by rw [e.1]; exact e2
          subst e3
          have HV := Lib.hid (HVA.out wr (bnext HL.out.2.2 HBX.out) (rank taken i) hk)
          have hr8 := rank_le taken i
          clear hti hc e e2
          generalize rank taken i = r at *
          obtain ⟨t, ht⟩ : ∃ t, t = TT r := ⟨_, rfl⟩
          have HTT := Lib.hid ht
          rw [← ht] at d0 d1 d2 d3 d4 d5 d6 d7 hJ HV
          obtain ⟨tp, tj, tn, tf, ⟨kg, ko, kn, kd, kc, kt⟩⟩ := t
          obtain ⟨s1, cs1, hs1, _⟩ := hJ
          dsimp only at hs1 d0 d1 d2 d3 d4 d5 d6 d7 HV
          subst hs1
          have y0 : (0 : Int) ≤ (r : Int) := by omega
          have y1 : (r : Int) < (m : Int) := by omega
          clear ht
          go_wp2_with fail
          refine HV.out.mono ?_
          rintro e w5 ⟨rfl, hb5⟩
          have HB5 := Lib.hid (bnext HBX.out hb5)
          have HLW5 := Lib.hid (HLW.out.below hb5)
          have HOW5 := Lib.hid (own_under HOW.out hb5)
          have HT5 := Lib.hid (HasL.below (HT1.out.below HBX.out) hb5)
          have hbk : bk < wr.heap.size := cell_lt d0
          have k5 := fun o => hb5.cell (p := ⟨bk, o, none⟩) hbk
          have f0 := (k5 _).trans d0
          have f1 := (k5 _).trans d1
          have f2 := (k5 _).trans d2
          have f3 := (k5 _).trans d3
          have f4 := (k5 _).trans d4
          have f5 := (k5 _).trans d5
          have f6 := (k5 _).trans d6
          have f7 := (k5 _).trans d7
          clear d0 d1 d2 d3 d4 d5 d6 d7 k5 a0 a1 a2 a3 a4 hb5 ct
          obtain ⟨a0, a1, a2, a3, a4⟩ := HLW5.out.cells
          obtain ⟨y0', y1', y2', y3', y4'⟩ := HT5.out.cells
          have fr := fun j => World.ownsRow.frozenAt HOW5.out j
          have fr2 := fun j => has_free HT5.out j
          have q := fun (r : Nat) (hr : r < 8) => (World.ownsRow.cellAt HOW5.out (i * 8 + r) (by omega)).trans (tkL_at (fillT taken TT i) hi8 r hr)
          have u0 := q 0 (by omega)
          have u1 := q 1 (by omega)
          have u2 := q 2 (by omega)
          have u3 := q 3 (by omega)
          have u4 := q 4 (by omega)
          have u5 := q 5 (by omega)
          have u6 := q 6 (by omega)
          have u7 := q 7 (by omega)
          rw [Nat.add_zero] at u0
          clear q
          by_cases hval : validE tp tn tf ⟨kg, ko, kn, kd, kc, kt⟩ = 0
          · have HOKR := Lib.hid (show okTk ⟨tp, .slice s1 tn cs1, tn, tf, ⟨kg, ko, kn, kd, kc, kt⟩⟩ from by
              apply Classical.byContradiction
              intro hc
              have h270 : validE tp tn tf ⟨kg, ko, kn, kd, kc, kt⟩ = 270 := if_neg hc
              omega)
            generalize validE tp tn tf ⟨kg, ko, kn, kd, kc, kt⟩ = E at *
            subst hval
            go_upto_region 14 with fail
            go_region
            all_goals
              go_wp2_with fail
              go_roundw
              case rel =>
                have hWg : W2.heap.size ≤ g := (HOW5.out.lt g rfl).1
                have ho8 := own_set8 HOW5.out i ⟨tp, .slice s1 tn cs1, tn, tf, ⟨kg, ko, kn, kd, kc, kt⟩⟩
                have hb8 := below_set8 HB5.out (g := g) hWg i (.int .i64 tp) (.slice s1 tn cs1) (.int .i64 kg) (.int .i64 ko) (.int .i64 kn) (.int .i64 kd) (.int .i64 kc) (.int .i64 kt)
                refine ⟨i + 1, by go_num, by rw [HRS.out]; go_num, by omega, Lib.hid (fun j hj => ?_), Lib.hid ?_, Lib.hid ?_, Lib.hid (below_drew hb8)⟩
                · rw [HRS.out] at hj
                  by_cases e : j = r
                  · subst e; rw [← HTT.out]; exact HOKR.out
                  · exact HOK.out j (by omega)
                · exact has_drew (has_other (has_other (has_other (has_other (has_other (has_other (has_other (has_other HLW5.out _ _ (fun e => hbg e.symm)) _ _ (fun e => hbg e.symm)) _ _ (fun e => hbg e.symm)) _ _ (fun e => hbg e.symm)) _ _ (fun e => hbg e.symm)) _ _ (fun e => hbg e.symm)) _ _ (fun e => hbg e.symm)) _ _ (fun e => hbg e.symm))
                · rw [HF.out, ← HTT.out]; exact own_drew8 ho8
              case measure => simp [intOf]; omega
          · have g1 : (validE tp tn tf ⟨kg, ko, kn, kd, kc, kt⟩ != 0) = true := by simpa using hval
            have HVL := Lib.hid hval
            clear hval
            go_wp2_with fail
            refine bodyPost_ret (v := .tuple #[lv 0 (.slice none 0 0) (.slice none 0 0) (.slice none 0 0) (.slice none 0 0), .int .i64 270]) (by simp [results, Tryz.results12, go_sem, y0', y1', y2', y3', y4']) rfl ?_
            have hb6 := below5 (bnext HL.out.2.2 HB5.out) (g := w.heap.size) (Nat.le_refl _) (.int .i64 0) (.slice none 0 0) (.slice none 0 0) (.slice none 0 0) (.slice none 0 0)
            exact .inr ⟨fun hok => HVL.out (if_pos (by have := hok r hk; rw [← HTT.out] at this; exact this)), rfl, hb6⟩
      · obtain rfl : i = 8 := by omega
        have z1 : ¬ ((8 : Nat) : Int) < 8 := by omega
        have HT6 := Lib.hid (HT1.out.below HBX.out)
        obtain ⟨y0, y1, y2, y3, y4⟩ := HT6.out.cells
        have fr2 := fun j => has_free HT6.out j
        have HJF := Lib.hid (show ∀ W, Below wr.heap.size wr W → ∀ j, j < 8 → JobsX X2 W (fillT taken TT 8 j).s (fillT taken TT 8 j).n (fillT taken TT 8 j).f from fun W hW j hj => by
          by_cases c : j < 8 ∧ taken.getD j false = true
          · have e1 : fillT taken TT 8 j = TT (rank taken j) := if_pos c
            rw [e1]
            exact ((HJ.out _ (HRK.out j hj c.2)).below (bnext HL.out.2.2 HBX.out)).below hW
          · have e1 : fillT taken TT 8 j = tk0 := if_neg c
            rw [e1]
            exact JobsX.nil _ _ _)
        go_wp2_with fail
        refine bodyPost_ret (v := .tuple #[lv 2 (.slice p1 n1 c1) (.slice p3 n3 c3) (.slice p4 n4 c4) (.slice (some ⟨g, 0, none⟩) 8 8), .int .i64 0]) (by simp [results, Tryz.results12, go_sem, y0, y1, y2, y3, y4]) rfl ?_
        have hk := keeps5 (Keeps.refl X2 wr) HX2.out.2.2 (.int .i64 2) (.slice p1 n1 c1) (.slice p3 n3 c3) (.slice p4 n4 c4) (.slice (some ⟨g, 0, none⟩) 8 8)
        have hb6 := below5 (bnext HL.out.2.2 HBX.out) (g := w.heap.size) (Nat.le_refl _) (.int .i64 2) (.slice p1 n1 c1) (.slice p3 n3 c3) (.slice p4 n4 c4) (.slice (some ⟨g, 0, none⟩) 8 8)
        refine .inl ⟨fun j hj => HOK.out j (by rw [HM.out] at hj; exact hj), _, _, _, _, rfl, DL.mono (X := X2) ⟨(HRT.out.below HBX.out).keeps hk, fun i => (fillT taken TT 8 i).s, ?_⟩ (fun x _ hx => HX2.out.2.1 x hx), hb6⟩
        refine TasksX.keeps (show TasksX X2 wr _ 8 (fillT taken TT 8) from ⟨own_tasks HOW.out (by omega) fun j hj => (HJF.out wr (Below.refl _ _) j hj).1, fun a n' c' e h0 k => ?_, fun j hj => HJF.out wr (Below.refl _ _) j hj⟩) hk (fun _ k => k)
        cases e
        have h1 := HX2.out.1 _ k
        have h2 := (HOW.out.lt g rfl).1
        have h3 := HL.out
        simp only at h1
        omega
/-- Load of anything that reads as slots and tasks. -/
theorem rload13 (X : Nat → Prop) (gens : List Int) (taken : List Bool) (m : Nat) (TT : Nat → Tk) (hm : 8 * m ≤ 281474976710656) (v x y : Value) (w : World) (hX : ∀ x, X x → x < w.heap.size) (hv : Lst (fun _ => False) w v (ints gens)) (hx : Lst (fun _ => False) w x (bools taken)) (hy : Tasks w y m TT) (hj : ∀ j, j < m → JobsX X w (TT j).s (TT j).n (TT j).f) :
    Calls Tryz.prog 12 #[v, x, y] w (LoadR13 X w (okLoad gens taken m TT) (Tab.load 2 gens taken (List.replicate m 0)) (fillT taken TT 8)) := by
  by_cases h8 : gens.length = 8
  · obtain ⟨py, cy, rfl, _⟩ := id hy
    by_cases h : (taken.length = gens.length ∧ standB gens taken gens.length) ∧ m = rank taken taken.length
    · refine (rload13_mid X gens taken m TT hm py cy v x w hX hv hx hy hj h8 h).mono fun e w' hh => ?_
      rcases hh with ⟨h1, h2⟩ | ⟨h1, h2⟩
      · exact .inl ⟨⟨h8, h, h1⟩, h2⟩
      · exact .inr ⟨fun k => h1 k.2.2, h2⟩
    · refine (rload13_no2 gens taken m hm py cy v x w hv hx h8 h).mono fun e w' hh => ?_
      exact .inr ⟨fun k => h k.2.1, hh⟩
  · refine (rload13_no1 gens v x y w hv h8).mono fun e w' hh => ?_
    exact .inr ⟨fun k => h8 k.1, hh⟩
end Go.Proofs.YthbkinopgialmaaGreatDoor
/- The document's own Save of a leaf; no condition but those that each row names. -/
namespace Go.Proofs.YthbkinopgialmaaGreatDoor
open Go.RowKit Tsk

/-- The tasks of the slots below i that are taken. -/
def told (t : Nat → Bool) (F : Nat → Tk) (i : Nat) : Nat → Tk := fun j => F ((idxTo t i).getD j 0)
theorem told_yes {t : Nat → Bool} {F : Nat → Tk} {i : Nat} (h : t i = true) : tkL (told t F (i + 1)) (idxTo t (i + 1)).length = tkL (told t F i) (idxTo t i).length ++ [.int .i64 (F i).p, (F i).s, .int .i64 (F i).k.g, .int .i64 (F i).k.o, .int .i64 (F i).k.n, .int .i64 (F i).k.d, .int .i64 (F i).k.c, .int .i64 (F i).k.t] := by
  have e := idxTo_yes h
  have hl : (idxTo t (i + 1)).length = (idxTo t i).length + 1 := by rw [e, List.length_append]; rfl
  have hF : told t F (i + 1) (idxTo t i).length = F i := by unfold told; rw [e]; simp [List.getD_eq_getElem?_getD]
  rw [hl, tkL_succ, hF, tkL_congr (T' := told t F i)]
  intro j hj
  unfold told
  rw [e]
  simp [List.getD_eq_getElem?_getD, List.getElem?_append_left hj]
theorem told_len {t : Nat → Bool} {i : Nat} (h : t i = true) : (idxTo t (i + 1)).length = (idxTo t i).length + 1 := by rw [idxTo_yes h, List.length_append]; rfl
/-- What the document's Save answers. -/
def SaveR13 (w : World) (A : Tab) (T : Nat → Tk) (e : Ending) (w' : World) : Prop :=
  ∃ gs ts x sl, e = .returned (.tuple #[gs, ts, x]) ∧ Lst (fun _ => False) w' gs (ints A.gens) ∧ Lst (fun _ => False) w' ts (bools A.taken) ∧ Tasks w' x A.idxs.length (tm (toldF A T) sl) ∧ Below w.heap.size w w'
set_option maxHeartbeats 4000000 in
set_option maxRecDepth 100000 in
theorem rsave13 (X : Nat → Prop) (A : Tab) (T : Nat → Tk) (hg : LGood A T) (gs ts ls ks : Value) (w : World) (h : DL X w A T gs ts ls ks) :
    Calls Tryz.prog 33 #[lv A.kind gs ts ls ks] w (SaveR13 w A T) := by
  have h8 := hg.len
  have hlt := hg.tab.lt
  have e8 : A.idxs = idxTo A.t 8 := by show idxTo A.t A.n = _; rw [show A.n = 8 from h8]
  have HG1 := Lib.hid (h.rt.g.mono (T := fun _ => False) (fun _ _ k => k.elim))
  have HT1 := Lib.hid (h.rt.t.mono (T := fun _ => False) (fun _ _ k => k.elim))
  obtain ⟨p, cp, q, cq, r, cr, rfl, rfl, rfl⟩ := h.rt.shapes
  obtain ⟨sl, hTX⟩ := h.tk
  have HTX := Lib.hid hTX.tk
  have HJX := Lib.hid (fun j (hj : j < 8) => (hTX.jx j hj).1)
  obtain ⟨pk, ck, rfl, _, _⟩ := id hTX.tk
  have HTA := Lib.hid h.rt.t
  generalize hkk : A.kind = kk at *
  have HL8 := Lib.hid (show A.taken.length = 8 by omega)
  obtain ⟨ng, hng⟩ : ∃ ng, ng = A.gens.length := ⟨_, rfl⟩
  obtain ⟨nl, hnl⟩ : ∃ nl, nl = A.list.length := ⟨_, rfl⟩
  rw [← hng] at HG1 ⊢
  rw [← hnl]
  rw [show A.taken.length = 8 from HL8.out] at HT1 ⊢
  obtain ⟨WA, hWA⟩ : ∃ WA, WA = w.alloc (.cells #[.int .i64 kk, .slice p ng cp, .slice q 8 cq, .slice r nl cr, .slice pk 8 ck] LT) := ⟨_, rfl⟩
  have HB := Lib.hid (show Below w.heap.size w WA from by rw [hWA]; exact (Below.refl _ _).alloc (Nat.le_refl _) _)
  have HT := Lib.hid (show HasL WA w.heap.size kk (.slice p ng cp) (.slice q 8 cq) (.slice r nl cr) (.slice pk 8 ck) from by rw [hWA]; exact hasL_new _ _ _ _ _ _)
  have HW := Lib.hid hWA
  have HCT := Lib.hid (show ∀ W, Below w.heap.size w W → ∀ i, i < 8 → ∃ b off, q = some ⟨b, off, none⟩ ∧ W.cell? ⟨b, off + i, none⟩ = some (.bool (A.t i)) from fun W hb i hi => by
    obtain ⟨_, _, e, _, hc⟩ := HTA.out
    simp only [Value.slice.injEq] at e
    obtain ⟨b, off, e2, _, hcell⟩ := hc i _ (bools_at (by have := HL8.out; omega))
    exact ⟨b, off, by rw [e.1]; exact e2, (hb.cell (p := ⟨b, off + i, none⟩) (cell_lt hcell)).trans hcell⟩)
  have HE8 := Lib.hid e8
  clear hWA h hg h8 hlt hkk hTX hng hnl HTA e8
  go_enter Tryz.func33, Tryz.ntmps33
  go_upto_region 1 with fail
  rw [← HW.out]
  obtain ⟨a0, a1, a2, a3, a4⟩ := HT.out.cells
  go_wp2_with fail
  go_loopw [5, 6] (fun mv iv wr => ∃ (i : Nat) (xv : Value), xv = mv ∧ iv = .int .i64 i ∧ i ≤ 8 ∧ Hid (wr.ownsRow WA.heap.size KT 8 mv (idxTo A.t i).length (tkL (told A.t (tm T sl) i) (idxTo A.t i).length)) ∧ Hid (Below WA.heap.size WA wr)) (fun _ iv _ => 8 - (intOf iv).toNat)
  case atStart => exact ⟨0, _, rfl, rfl, Nat.zero_le _, Lib.hid (World.ownsRow_nil _ _ _ _), Lib.hid (Below.refl _ _)⟩
  case round =>
    clear a0 a1 a2 a3 a4
    obtain ⟨i, xv, rfl, rfl, hi, HX, HBX⟩ := hrel
    obtain ⟨a0, a1, a2, a3, a4⟩ := HasL.cells (HT.out.below HBX.out)
    have z0 : (0 : Int) ≤ (i : Int) := by omega
    have hlen := idxTo_len A.t i
    by_cases hi8 : i < 8
    · have z1 : (i : Int) < 8 := by omega
      obtain ⟨bt, ot, rfl, ct⟩ := HCT.out _ (bnext HB.out HBX.out) i hi8
      generalize hti : A.t i = tk at *
      cases tk with
      | false =>
        have HX2 := Lib.hid (show wr.ownsRow WA.heap.size KT 8 xv (idxTo A.t (i + 1)).length (tkL (told A.t (tm T sl) (i + 1)) (idxTo A.t (i + 1)).length) from by
          have e := idxTo_no hti
          unfold told
          rw [e]
          exact HX.out)
        clear hti
        go_wp2_with fail
        go_roundw
        case rel => exact ⟨i + 1, _, rfl, by go_num, by omega, HX2, HBX⟩
        case measure => simp [intOf]; omega
      | true =>
        have HY := Lib.hid (told_yes (F := tm T sl) hti)
        have HYL := Lib.hid (told_len hti)
        obtain ⟨_, _, e, _, hc⟩ := HTX.out.below (bnext HB.out HBX.out)
        simp only [Value.slice.injEq] at e
        obtain ⟨bk, ok, e2, d0, d1, d2, d3, d4, d5, d6, d7, hJ⟩ := hc i hi8
        have e3 : pk = some ⟨bk, ok, none⟩ := by rw [e.1]; exact e2
        subst e3
        obtain ⟨t, ht⟩ : ∃ t, t = tm T sl i := ⟨_, rfl⟩
        rw [← ht] at d0 d1 d2 d3 d4 d5 d6 d7 hJ HY
        obtain ⟨tp, tj, tn, tf, ⟨kg, ko, kn, kd, kc, kt⟩⟩ := t
        obtain ⟨s1, cs1, hs1, _⟩ := hJ
        dsimp only at hs1 d0 d1 d2 d3 d4 d5 d6 d7 HY
        subst hs1
        clear hti ht hc e e2
        go_wp2_with (at_builtin; refine wpList_append_tasks rfl _ _ rfl WA.heap.size xv (idxTo A.t i).length (tkL (told A.t (tm T sl) i) (idxTo A.t i).length) rfl (HX.out.alloc _) _ 1 [.int .i64 tp, .slice s1 tn cs1, .int .i64 kg, .int .i64 ko, .int .i64 kn, .int .i64 kd, .int .i64 kc, .int .i64 kt] rfl (src_onet wr tp (.slice s1 tn cs1) ⟨kg, ko, kn, kd, kc, kt⟩ _) ?a1 ?a2 ?a3 ?_)
        case a1 => exact ⟨rfl, rfl, rfl, rfl, rfl, rfl, rfl, rfl⟩
        case a2 => omega
        case a3 => have := HBX.out.size; simp; omega
        intro pn cn w3 ho3 hg3 ha3
        have HO3 := Lib.hid (show w3.ownsRow WA.heap.size KT 8 (.slice pn ((idxTo A.t i).length + 1) cn) (idxTo A.t (i + 1)).length (tkL (told A.t (tm T sl) (i + 1)) (idxTo A.t (i + 1)).length) from by
          rw [HY.out, HYL.out]; exact ho3)
        have HB3 := Lib.hid (show Below WA.heap.size WA w3 from (HBX.out.alloc HBX.out.size _).grown hg3 (by have := HBX.out.size; simp; omega) (fun g e => (HX.out.lt g e).1))
        clear ho3 hg3 ha3
        go_wp2_with fail
        go_roundw
        case rel => exact ⟨i + 1, _, rfl, by go_num, by omega, HO3, HB3⟩
        case measure => simp [intOf]; omega
    · obtain rfl : i = 8 := by omega
      have z1 : ¬ ((8 : Nat) : Int) < 8 := by omega
      have HF := Lib.hid (show ∃ sl', Tasks wr xv (idxTo A.t 8).length (tm (toldF A T) sl') from ⟨fun j => sl (A.idxs.getD j 0), by
        have e : tm (toldF A T) (fun j => sl (A.idxs.getD j 0)) = told A.t (tm T sl) 8 := by
          funext j; unfold told toldF tm; rw [HE8.out]
        rw [e]
        exact own_tasks HX.out (by omega) fun j hj => by
          have := (idxTo_at hj).1
          exact (HJX.out _ this).below (bnext HB.out HBX.out)⟩)
      go_wp2_with fail
      go_quiet (fail)
      go_wp2_with fail
      refine bodyPost_ret (v := .tuple #[.slice p ng cp, .slice q 8 cq, xv]) (by simp [results, Tryz.results33, go_sem]) rfl ?_
      obtain ⟨sl', hF⟩ := HF.out
      unfold SaveR13
      rw [HE8.out]
      exact ⟨_, _, _, sl', rfl, HG1.out.below (by first | exact below_drewN (bnext HB.out HBX.out) _ | exact below_drew (bnext HB.out HBX.out)), HT1.out.below (by first | exact below_drewN (bnext HB.out HBX.out) _ | exact below_drew (bnext HB.out HBX.out)), hF.below (by first | exact below_drewN (Below.refl _ _) _ | exact below_drew (Below.refl _ _)), (by first | exact below_drewN (bnext HB.out HBX.out) _ | exact below_drew (bnext HB.out HBX.out))⟩
end Go.Proofs.YthbkinopgialmaaGreatDoor
/- The law's own copies of tasks, each with jobs of its own; no condition but those that each row names. -/
namespace Go.Proofs.YthbkinopgialmaaGreatDoor
open Go.RowKit Tsk

/-- What is copied so far. -/
def OwnI (w : World) (TT : Nat → Tk) (i : Nat) (xv : Value) (wr : World) : Prop :=
  ∃ sr, wr.ownsRow w.heap.size KT 8 xv i (tkL (tm TT sr) i) ∧ (∀ j, j < i → Jobs wr (sr j) (TT j).n (TT j).f ∧ NotIn (sr j) xv.ownBlock) ∧ Below w.heap.size w wr
/-- What own answers. -/
def OwnPost (w : World) (m : Nat) (TT : Nat → Tk) (e : Ending) (w' : World) : Prop := ∃ y sl, e = .returned y ∧ Tasks w' y m (tm TT sl) ∧ Below w.heap.size w w'
theorem OwnI.fin {w wr : World} {TT : Nat → Tk} {m : Nat} {xv : Value} (h : OwnI w TT m xv wr) (hm : m ≤ 9223372036854775807) : OwnPost w m TT (.returned xv) wr := by
  obtain ⟨sr, ho, hj, hb⟩ := h
  exact ⟨xv, sr, rfl, own_tasks ho hm fun j hlt => (hj j hlt).1, hb⟩
theorem tkL_upd_row {TT : Nat → Tk} {sr : Nat → Value} {i : Nat} {s : Value} {p : Int} {n : Nat} {f : Nat → Jb} {k : Ac} {s0 : Value} (ht : (⟨p, s0, n, f, k⟩ : Tk) = TT i) : tkL (tm TT (upd sr i s)) (i + 1) = tkL (tm TT sr) i ++ [.int .i64 p, s, .int .i64 k.g, .int .i64 k.o, .int .i64 k.n, .int .i64 k.d, .int .i64 k.c, .int .i64 k.t] := by
  rw [tkL_succ, tkL_congr (T' := tm TT sr) (fun j hj => by unfold tm; rw [upd_ne _ (by omega)])]
  unfold tm
  rw [upd_same, ← ht]
/-- One more. -/
theorem OwnI.step {w wr W w5 : World} {TT : Nat → Tk} {i : Nat} {xv : Value} (h : OwnI w TT i xv wr) {p : Int} {s0 : Value} {n : Nat} {f : Nat → Jb} {k : Ac} (ht : (⟨p, s0, n, f, k⟩ : Tk) = TT i) {B : Nat} {s : Value} (hB : wr.heap.size ≤ B) (hs : JobsO B W s n f) (hn : n ≤ 9223372036854775807) (hk : Below wr.heap.size wr W)
    {pn : Option Addr} {c : Nat} (ho : w5.ownsRow w.heap.size KT 8 (.slice pn (i + 1) c) (i + 1) (tkL (tm TT (upd (Classical.choose h) i s)) (i + 1))) (hg : W.grownBy w5 xv.ownBlock) (ha : ∀ g, (Value.slice pn (i + 1) c).ownBlock = some g → xv.ownBlock = some g ∨ W.heap.size ≤ g) : OwnI w TT (i + 1) (.slice pn (i + 1) c) w5 := by
  obtain ⟨h1, h2, h3⟩ := Classical.choose_spec h
  generalize Classical.choose h = sr at *
  have hlt := fun g e => (World.ownsRow.lt h1 g e)
  have hw := h3.size
  have hwr := hk.size
  refine ⟨_, ho, fun j hj => ?_, (bnext h3 hk).grown hg (by omega) (fun g e => (hlt g e).1)⟩
  by_cases e : j = i
  · subst e
    rw [upd_same, ← ht]
    have hni : NotIn s xv.ownBlock := NotIn.new hs (fun b e => by have := (hlt b e).2; omega)
    refine ⟨(own_jobs hs hn).grown hg hni, fun a n' c' e hn e2 => ?_⟩
    rcases ha a.block e2 with q | q
    · exact hni a n' c' e hn q
    · have := (own_jobs hs (by assumption)).lt a n' c' e hn
      omega
  · rw [upd_ne _ e]
    obtain ⟨k1, k2⟩ := h2 j (by omega)
    refine ⟨(k1.below hk).grown hg k2, fun a n' c' e hn e2 => ?_⟩
    rcases ha a.block e2 with q | q
    · exact k2 a n' c' e hn q
    · have := k1.lt a n' c' e hn
      omega
set_option maxHeartbeats 4000000 in
set_option maxRecDepth 100000 in
theorem own_tasks_any (v : Value) (m : Nat) (TT : Nat → Tk) (w : World) (h : Tasks w v m TT) (hm : m * 80 ≤ 140737488355328) (hn : ∀ j, j < m → (TT j).n * 32 ≤ 140737488355328) :
    Calls Tryz.prog 11 #[v] w (OwnPost w m TT) := by
  have HTK := Lib.hid h
  have HN := Lib.hid hn
  obtain ⟨q, cap, rfl, hm2, _⟩ := h
  clear hn
  go_enter Tryz.func11, Tryz.ntmps11
  go_wp2_with fail
  go_loopw [3, 4] (fun mv iv wr => ∃ (i : Nat) (xv : Value), xv = mv ∧ iv = .int .i64 i ∧ i ≤ m ∧ Hid (OwnI w TT i mv wr)) (fun _ iv _ => m - (intOf iv).toNat)
  case atStart => exact ⟨0, _, rfl, rfl, Nat.zero_le _, Lib.hid ⟨fun _ => .slice none 0 0, World.ownsRow_nil _ _ _ _, fun j hj => by omega, Below.refl _ _⟩⟩
  case round =>
    obtain ⟨i, xv, rfl, rfl, hi, HO⟩ := hrel
    have z0 : (0 : Int) ≤ (i : Int) := by omega
    by_cases him : i < m
    · have z1 : (i : Int) < (m : Int) := by omega
      obtain ⟨_, _, _, hbw⟩ := id HO.out
      have HBW := Lib.hid hbw
      clear hbw
      obtain ⟨_, _, e, _, hc⟩ := HTK.out.below HBW.out
      simp only [Value.slice.injEq] at e
      obtain ⟨bk, ok, e2, d0, d1, d2, d3, d4, d5, d6, d7, hJ⟩ := hc i him
      have e3 : q = some ⟨bk, ok, none⟩ := by rw [e.1]; exact e2
      subst e3
      have hni := HN.out i him
      obtain ⟨t, ht⟩ : ∃ t, t = TT i := ⟨_, rfl⟩
      rw [← ht] at d0 d1 d2 d3 d4 d5 d6 d7 hJ hni
      obtain ⟨tp, tj, tn, tf, ⟨kg, ko, kn, kd, kc, kt⟩⟩ := t
      obtain ⟨s1, cs1, hs1, _⟩ := id hJ
      dsimp only at hs1 d0 d1 d2 d3 d4 d5 d6 d7 hJ hni
      subst hs1
      have HJ := Lib.hid hJ
      have HT := Lib.hid ht
      have HNI := Lib.hid hni
      clear ht hc e e2 hJ hni
      obtain ⟨sr, hsr⟩ : ∃ sr, sr = Classical.choose HO.out := ⟨_, rfl⟩
      have HST := Lib.hid (fun B W w5 s (p1 : wr.heap.size ≤ B) (p2 : JobsO B W s tn tf) (p3 : Below wr.heap.size wr W) pn c p4 p5 p6 => OwnI.step HO.out HT.out p1 p2 (by have := HNI.out; omega) p3 (w5 := w5) (pn := pn) (c := c) p4 p5 p6)
      have hox : wr.ownsRow w.heap.size KT 8 xv i (tkL (tm TT sr) i) := by rw [hsr]; exact (Classical.choose_spec HO.out).1
      have HOX := Lib.hid hox
      have HUR := Lib.hid (fun s => tkL_upd_row (sr := sr) (i := i) (s := s) HT.out)
      rw [← hsr] at HST
      clear hox hsr
      go_upto_region 7 with fail
      obtain ⟨wt, hwt⟩ : ∃ wt, wt = wr.alloc (.cells #[.int .i64 tp, .slice s1 tn cs1, .int .i64 kg, .int .i64 ko, .int .i64 kn, .int .i64 kd, .int .i64 kc, .int .i64 kt] KT) := ⟨_, rfl⟩
      rw [← hwt]
      have HWT := Lib.hid (show Below wr.heap.size wr wt ∧ HasT wt wr.heap.size tp (.slice s1 tn cs1) ⟨kg, ko, kn, kd, kc, kt⟩ ∧ wt.heap.size = wr.heap.size + 1 from by
        rw [hwt]; exact ⟨(Below.refl _ _).alloc (Nat.le_refl _) _, hasT_new wr tp (.slice s1 tn cs1) ⟨kg, ko, kn, kd, kc, kt⟩, by simp⟩)
      have d1' := (HWT.out.1.cell (p := ⟨bk, ok + i * 8 + 1, none⟩) (cell_lt d1)).trans d1
      clear hwt d0 d1 d2 d3 d4 d5 d6 d7
      go_wp2_with (at_builtin; refine wpList_append_jobs rfl _ _ rfl wt.heap.size (.slice none 0 0) 0 [] rfl (World.ownsRow_nil _ _ _ _) _ tn (jbL tf tn) rfl (src_jobs (HJ.out.below HWT.out.1)) (jbL_one _ _) (by have := HNI.out; omega) (Nat.le_refl _) ?_)
      intro p2 c2 w3 ho3 hg3 ha3
      have hb3 : Below wt.heap.size wt w3 := below_of_grown hg3
      have HO3 := Lib.hid (show JobsO wt.heap.size w3 (.slice p2 tn c2) tn tf from by
        try rw [Nat.zero_add] at ho3
        exact ho3)
      have HT3 := Lib.hid (HasT.below HWT.out.2.1 hb3)
      have HB3 := Lib.hid (bnext HWT.out.1 hb3)
      have hs3 := hb3.size
      have HS3 := Lib.hid (show wr.heap.size + 1 ≤ w3.heap.size from by have := HWT.out.2.2; omega)
      clear ho3 hg3 ha3 hb3 d1' hs3
      obtain ⟨x0, x1, x2, x3, x4, x5, x6, x7⟩ := HT3.out.cells
      have f0 := fun j => has_free HT3.out j
      have HW4 := Lib.hid (show Below wr.heap.size wr (w3.setCell ⟨wr.heap.size, 1, none⟩ (.slice p2 tn c2)) from below_low HB3.out _ _ (Nat.le_refl _))
      have HJ4 := Lib.hid (show JobsO wt.heap.size (w3.setCell ⟨wr.heap.size, 1, none⟩ (.slice p2 tn c2)) (.slice p2 tn c2) tn tf from own_low HO3.out _ _ (by have := HWT.out.2.2; show wr.heap.size < wt.heap.size; omega))
      have HW5 := Lib.hid (show w.heap.size ≤ wr.heap.size from HBW.out.size)
      obtain ⟨w4, hw4⟩ : ∃ w4, w4 = w3.setCell ⟨wr.heap.size, 1, none⟩ (.slice p2 tn c2) := ⟨_, rfl⟩
      go_upto_region 8 with fail
      have HT4 := Lib.hid (show w4.cell? ⟨wr.heap.size, 0, none⟩ = some (.int .i64 tp) ∧ w4.cell? ⟨wr.heap.size, 1, none⟩ = some (.slice p2 tn c2) ∧ w4.cell? ⟨wr.heap.size, 2, none⟩ = some (.int .i64 kg) ∧ w4.cell? ⟨wr.heap.size, 3, none⟩ = some (.int .i64 ko) ∧ w4.cell? ⟨wr.heap.size, 4, none⟩ = some (.int .i64 kn) ∧ w4.cell? ⟨wr.heap.size, 5, none⟩ = some (.int .i64 kd) ∧ w4.cell? ⟨wr.heap.size, 6, none⟩ = some (.int .i64 kc) ∧ w4.cell? ⟨wr.heap.size, 7, none⟩ = some (.int .i64 kt) from by
        rw [hw4]
        have ho : ∀ j, 1 ≠ j → (w3.setCell ⟨wr.heap.size, 1, none⟩ (.slice p2 tn c2)).cell? ⟨wr.heap.size, j, none⟩ = w3.cell? ⟨wr.heap.size, j, none⟩ := fun j e => World.cell?_setCell_other w3 _ _ _ (by first | (simp; done) | (simp; exact e))
        exact ⟨(ho _ (by omega)).trans x0, World.cell?_setCell_same w3 _ _ x1, (ho _ (by omega)).trans x2, (ho _ (by omega)).trans x3, (ho _ (by omega)).trans x4, (ho _ (by omega)).trans x5, (ho _ (by omega)).trans x6, (ho _ (by omega)).trans x7⟩)
      rw [← hw4] at HW4 HJ4 ⊢
      clear hw4 x0 x1 x2 x3 x4 x5 x6 x7 f0 HT3 HB3
      obtain ⟨x0, x1, x2, x3, x4, x5, x6, x7⟩ := HT4.out
      go_wp2_with (at_builtin; refine wpList_append_tasks rfl _ _ rfl w.heap.size xv i (tkL (tm TT sr) i) rfl ((own_under HOX.out HW4.out).alloc _) _ 1 [.int .i64 tp, .slice p2 tn c2, .int .i64 kg, .int .i64 ko, .int .i64 kn, .int .i64 kd, .int .i64 kc, .int .i64 kt] rfl (src_onet w4 tp (.slice p2 tn c2) ⟨kg, ko, kn, kd, kc, kt⟩ _) ?a1 ?a2 ?a3 ?_)
      case a1 => intro u hu; simp only [List.mem_cons, List.not_mem_nil, or_false] at hu; rcases hu with rfl | rfl | rfl | rfl | rfl | rfl | rfl | rfl <;> rfl
      case a2 => omega
      case a3 => have h1 := HW4.out.size; have h2 := HW5.out; simp; omega
      intro pn cn w5 ho5 hg5 ha5
      rw [← HUR.out] at ho5
      have HO5 := Lib.hid (HST.out wt.heap.size _ w5 _ (by have := HWT.out.2.2; omega) (World.ownsRow.alloc HJ4.out _) (HW4.out.alloc HW4.out.size _) pn cn ho5 hg5 (by simpa using ha5))
      clear ho5 hg5 ha5
      go_wp2_with fail
      go_roundw
      case rel => exact ⟨i + 1, _, rfl, by go_num, by omega, HO5⟩
      case measure => simp [intOf]; omega
    · obtain rfl : i = m := by omega
      go_wp2_with fail
      go_ret
      exact HO.out.fin (by omega)
end Go.Proofs.YthbkinopgialmaaGreatDoor
/- The document's own task: Run, the jobs that it answers in memory of their own; no condition but those that each row names. -/
namespace Go.Proofs.YthbkinopgialmaaGreatDoor
open Go.RowKit Tsk

/-- A slice of jobs that lies in new blocks. -/
def JobsF (B : Nat) (w : World) (v : Value) (n : Nat) (f : Nat → Jb) : Prop := Jobs w v n f ∧ ∀ a m c, v = .slice (some a) m c → 0 < m → B ≤ a.block
def TaskR2 (w : World) (p : Int) (n : Nat) (f : Nat → Jb) (k : Ac) (x : Value) (w' : World) : Prop := ∃ s, x = tV p s k ∧ JobsF w.heap.size w' s n f ∧ Below w.heap.size w w'
theorem task_run2 {w w' : World} {p : Int} {s : Value} {g o m d c t : Int} {n n' : Nat} {f f' : Nat → Jb} {k : Ac} (hk : k = ⟨g, o, m, d, c, t⟩) (hn : n' = n) (hf : ∀ i, i < n → f i = f' i) (hj : JobsF w.heap.size w' s n f) (hb : Below w.heap.size w w') : TaskR2 w p n' f' k (tV p s ⟨g, o, m, d, c, t⟩) w' := by
  subst hk hn
  exact ⟨s, rfl, ⟨hj.1.congr hf, hj.2⟩, hb⟩
theorem jobs_none2 {B : Nat} (W : World) (g : Option Addr) (m c : Nat) (F : Nat → Jb) (h : m = 0) : JobsF B W (.slice g m c) m F := by
  refine ⟨jobs_none W g m c F h, fun a m' c' e h0 => ?_⟩
  cases e
  omega
theorem jobs_tail2 {B B' n c4 : Nat} {W : World} {g : Nat} {F : Nat → Jb} (h : JobsO (B' + 2) W (.slice (some ⟨g, 0, none⟩) n c4) n F) (hn : n ≤ 9223372036854775807) (_hB : B = B' + 2 := by rfl) : JobsF B' W (.slice (some ⟨g, 4, none⟩) (n - 1) (c4 - 1)) (n - 1) (fun i => F (i + 1)) := by
  refine ⟨jobs_tail h hn, fun a m' c' e h0 => ?_⟩
  cases e
  obtain ⟨g', cap, e2, _, hg, _⟩ := own_block2 h (by omega)
  cases e2
  show B' ≤ g
  omega
theorem own_jobs2 {B B' n : Nat} {W : World} {v : Value} {f : Nat → Jb} (h : JobsO (B' + 2) W v n f) (hn : n ≤ 9223372036854775807) (_hB : B = B' + 2 := by rfl) : JobsF B' W v n f := by
  refine ⟨own_jobs h hn, fun a m' c' e h0 => ?_⟩
  obtain ⟨p, cap, e3, _⟩ := own_small h
  rw [e] at e3
  cases e3
  obtain ⟨g', cap', e2, _, hg, _⟩ := own_block2 h h0
  rw [e] at e2
  cases e2
  show B' ≤ g'
  omega
theorem zero_taskR2 {w w' : World} (f : Nat → Jb) (hb : Below w.heap.size w w') : TaskR2 w 0 0 f kZ zT w' := ⟨_, rfl, jobs_none2 _ _ _ _ _ rfl, hb⟩
set_option maxHeartbeats 4000000 in
set_option maxRecDepth 100000 in
theorem rrun_ok2 (p : Int) (s : Value) (n : Nat) (f : Nat → Jb) (k : Ac) (now : Int) (w : World) (h : Jobs w s n f) (hv : okT p n f k) (hn : 0 ≤ now ∧ now < 1073741824) (h0 : 0 < n) (hg : k.g < 1073741824) :
    Calls Tryz.prog 60 #[tV p s k, .int .i64 now] w fun e w' => ∃ x, e = .returned (.tuple #[x, .int .i64 (runW (f 0)), .int .i64 (runL (f 0) now), .int .i64 0]) ∧ TaskR2 w p (runN n (f 0)) (runF f) (runK k (f 0) now) x w' := by
  have HV := Lib.hid (fun w (h : Jobs w s n f) => rvalid p s n f k w h)
  rw [ok_yes hv] at HV
  have HOK := Lib.hid hv
  clear hv
  have hnb : decide (now < 0) = false := decide_eq_false (by omega)
  have hnc : decide (1073741824 ≤ now) = false := decide_eq_false (by omega)
  have hz : decide (0 < n) = true := decide_eq_true h0
  have HJ := Lib.hid h
  obtain ⟨q, cap, rfl, _, _⟩ := h
  obtain ⟨kg, ko, kn, kd, kc, kt⟩ := k
  have hg2 : kg < 1073741824 := hg
  have hg3 : (kg == 1073741824) = false := by simp; omega
  clear hg
  obtain ⟨WA, hWA⟩ : ∃ WA, WA = (w.alloc (.cells #[.int .i64 p, .slice q n cap, .int .i64 kg, .int .i64 ko, .int .i64 kn, .int .i64 kd, .int .i64 kc, .int .i64 kt] KT)).alloc (.cells #[.int .i64 0, .slice none 0 0, .int .i64 0, .int .i64 0, .int .i64 0, .int .i64 0, .int .i64 0, .int .i64 0] KT) := ⟨_, rfl⟩
  have HB := Lib.hid (show Below w.heap.size w WA from by rw [hWA]; exact ((Below.refl _ _).alloc (Nat.le_refl _) _).alloc (by simp) _)
  have HA := Lib.hid (show HasT WA w.heap.size p (.slice q n cap) ⟨kg, ko, kn, kd, kc, kt⟩ ∧ HasT WA (w.heap.size + 1) 0 (.slice none 0 0) kZ ∧ WA.heap.size = w.heap.size + 2 from by
    rw [hWA]
    exact ⟨has_old (has_new w _ _ rfl) _, has_new _ _ _ (by simp), by simp⟩)
  have HW := Lib.hid hWA
  clear hWA
  go_enter Tryz.func60, Tryz.ntmps60
  go_wp2_with fail
  rw [← HW.out]
  refine (HV.out _ (HJ.out.below HB.out)).mono ?_
  rintro e w1 ⟨rfl, hb1⟩
  have HB1 := Lib.hid (bnext HB.out hb1)
  have HC1 := Lib.hid hb1
  obtain ⟨x0, x1, x2, x3, x4, x5, x6, x7⟩ := (HA.out.1.below hb1).cells
  obtain ⟨y0, y1, y2, y3, y4, y5, y6, y7⟩ := (HA.out.2.1.below hb1).cells
  have f1 : ∀ j, w1.frozen? ⟨w.heap.size + 1, j, none⟩ = false := fun j => has_free (HA.out.2.1.below hb1) j
  clear hb1
  go_wp2_with fail
  refine (rready p q n cap ⟨kg, ko, kn, kd, kc, kt⟩ _).mono ?_
  rintro e w3 ⟨rfl, hb3⟩
  rw [hz]
  have HB3 := Lib.hid (bnext HB1.out hb3)
  have hc3 := bnext HC1.out hb3
  clear x0 x1 x2 x3 x4 x5 x6 x7 y0 y1 y2 y3 y4 y5 y6 y7 f1
  obtain ⟨x0, x1, x2, x3, x4, x5, x6, x7⟩ := (HA.out.1.below hc3).cells
  obtain ⟨y0, y1, y2, y3, y4, y5, y6, y7⟩ := (HA.out.2.1.below hc3).cells
  have f1 : ∀ j, w3.frozen? ⟨w.heap.size + 1, j, none⟩ = false := fun j => has_free (HA.out.2.1.below hc3) j
  have HC3 := Lib.hid hc3
  clear hb3 hc3
  go_upto_region 9 with fail
  go_cut [] (fun wx => Ran0 w p n f ⟨kg, ko, kn, kd, kc, kt⟩ wx)
  case first =>
    go_wp2_with fail
    refine (rtwin p (.slice q n cap) n f ⟨kg, ko, kn, kd, kc, kt⟩ _ (HJ.out.below HB3.out) (by have := HOK.out.2.1; omega)).mono ?_
    rintro e w4 ⟨x, rfl, s4, c4, rfl, ho4, hb4⟩
    have hc4 := bnext HC3.out hb4
    have HP := Lib.hid (Ran0.made (HA.out.1.below hc4) (HA.out.2.1.below hc4) (own_base2 ho4 (show w.heap.size + 2 ≤ w3.heap.size from by have := HC3.out.size; have := HA.out.2.2; omega)) (bnext HB3.out hb4) h0)
    clear x0 x1 x2 x3 x4 x5 x6 x7 y0 y1 y2 y3 y4 y5 y6 y7 f1
    obtain ⟨x0, x1, x2, x3, x4, x5, x6, x7⟩ := (HA.out.1.below hc4).cells
    obtain ⟨y0, y1, y2, y3, y4, y5, y6, y7⟩ := (HA.out.2.1.below hc4).cells
    have f1 : ∀ j, w4.frozen? ⟨w.heap.size + 1, j, none⟩ = false := fun j => has_free (HA.out.2.1.below hc4) j
    have f0 : ∀ j, w4.frozen? ⟨w.heap.size, j, none⟩ = false := fun j => has_free (HA.out.1.below hc4) j
    clear hb4 hc4 ho4
    go_wp2_with fail
    go_meet
    exact HP.out
  case rest =>
    obtain ⟨g, c4, h1, h2, h3, h4⟩ := hcut
    have hkj := HOK.out.2.2.1 0 h0
    have hkn := HOK.out.2.1
    obtain ⟨⟨_, ho1, hz3⟩, hd1, hd2, hd3⟩ := (okA_mk _ _ _ _ _ _).1 HOK.out.2.2.2
    have ho2 : 0 ≤ ko := by omega
    have ho3 : ko < 1073741824 := by omega
    obtain ⟨b0, b1, b2, b3⟩ := jbL_at f h0
    have e0 : wc.cell? ⟨g, 0, none⟩ = some (.int .i64 (f 0).l) := (World.ownsRow.cellAt h3 0 (by omega)).trans b0
    have e1 : wc.cell? ⟨g, 1, none⟩ = some (.int .i64 (f 0).c) := (World.ownsRow.cellAt h3 1 (by omega)).trans b1
    have e2 : wc.cell? ⟨g, 2, none⟩ = some (.int .i64 (f 0).a) := (World.ownsRow.cellAt h3 2 (by omega)).trans b2
    have e3 : wc.cell? ⟨g, 3, none⟩ = some (.int .i64 (f 0).d) := (World.ownsRow.cellAt h3 3 (by omega)).trans b3
    have S1 := Lib.hid (fun jb x y => St.ran h1 h2 h3 h4 jb x y)
    obtain ⟨x0, x1, x2, x3, x4, x5, x6, x7⟩ := h1.cells
    have f0 : ∀ j, wc.frozen? ⟨w.heap.size, j, none⟩ = false := fun j => has_free h1 j
    have f2 : ∀ j, wc.frozen? ⟨g, j, none⟩ = false := fun j => World.ownsRow.frozenAt h3 j
    have hgs : w.heap.size + 2 ≤ g ∧ g < wc.heap.size := World.ownsRow.lt h3 g rfl
    obtain ⟨hg1, hg4⟩ := hgs
    have hn0 : (0 : Int) < (n : Int) := by omega
    obtain ⟨jb, hjb⟩ : ∃ jb, jb = f 0 := ⟨_, rfl⟩
    rw [← hjb] at e0 e1 e2 e3 hkj
    obtain ⟨l, c, a, d⟩ := jb
    have HF0 := Lib.hid (show f 0 = ⟨l, c, a, d⟩ from hjb.symm)
    have HNC := Lib.hid (show n ≤ c4 from by obtain ⟨_, _, e, h, _⟩ := own_block2 h3 h0; cases e; exact h)
    dsimp only at e0 e1 e2 e3
    clear hjb
    obtain ⟨⟨l1, l2⟩, ⟨c1', c2'⟩, ⟨a1', a2'⟩, d1', d2'⟩ := (okJ_mk _ _ _ _).1 hkj
    have hsl : w.heap.size < wc.heap.size := by omega
    have hsl1 : w.heap.size + 1 < wc.heap.size := by omega
    clear h1 h2 h3 h4 b0 b1 b2 b3 hkj ho1 hz3
    by_cases hc0 : 0 < c
    · skip
      have S7 := Lib.hid (S1.out ⟨l - 1, c - 1, a, d⟩ (kg + 1) (ko + 1))
      go_upto_region 17 with fail
      go_cut [8] (fun jv wx => ∃ J, jv = .pointer (some ⟨J, 0, none⟩) ∧ St w p (.slice (some ⟨g, 0, none⟩) n c4) ⟨kg + 1, ko + 1, kn, kd, kc, kt⟩ J ⟨l - 1, c - 1, a, d⟩ g n c4 (upd f 0 ⟨l - 1, c - 1, a, d⟩) wx)
      case first =>
        go_wp2_with fail
        go_meet
        exact ⟨_, rfl, S7.out⟩
      case rest =>
        obtain ⟨wc0, rfl, hcut⟩ := hcut
        have S8 := Lib.hid hcut
        obtain ⟨x0, x1, x2, x3, x4, x5, x6, x7⟩ := hcut.t.cells
        obtain ⟨y0, y1, y2, y3, y4, y5, y6, y7⟩ := hcut.r.cells
        obtain ⟨j0, j1, j2, j3⟩ := hcut.j.cells
        have f3 : ∀ j, wc.frozen? ⟨w.heap.size, j, none⟩ = false := fun j => has_free hcut.t j
        have f4 : ∀ j, wc.frozen? ⟨w.heap.size + 1, j, none⟩ = false := fun j => has_free hcut.r j
        have hJl : w.heap.size + 2 ≤ wc0 := hcut.Jl
        have hsw : w.heap.size + 1 < wc.heap.size := has_lt hcut.r
        clear hcut S7 S1 f0 f2 e0 e1 e2 e3
        by_cases q1 : l = 1
        · have q2 : (l - 1 == 0) = true := by simp; omega
          have HRF := Lib.hid (show runF f = fun i => f (i + 1) from if_pos (.inl (by rw [HF0.out]; exact q1)))
          go_wp2_with fail
          all_goals
            apply bodyPost_ret
            · simp [results, Tryz.results60, go_sem, y0, y1, y2, y3, y4, y5, y6, y7]
              exact rfl
            · rfl
            · rw [HF0.out]
              refine ⟨_, ret_run (by unfold runW; dsimp only; (repeat' split) <;> omega) (by unfold runL; dsimp only; (repeat' split) <;> omega), ?_⟩
              have hK0 := HNC.out
              first
                | (refine task_run2 (ac_eq rfl rfl rfl ?_ ?_ ?_) ?_ (fun i hi => rfl) (jobs_none2 _ _ _ _ (runF f) (by omega)) ?_)
                | (refine task_run2 (ac_eq rfl rfl rfl ?_ ?_ ?_) ?_ (fun i hi => ?_) (jobs_tail2 (B := w.heap.size + 2) (F := upd f 0 ⟨l - 1, c - 1, a, d⟩) ?_ (by omega)) ?_)
                | (refine task_run2 (ac_eq rfl rfl rfl ?_ ?_ ?_) ?_ (fun i hi => ?_) (own_jobs2 (B := w.heap.size + 2) (f := upd f 0 ⟨l - 1, c - 1, a, d⟩) ?_ (by omega)) ?_)
              all_goals first
                | (dsimp only; (repeat' split) <;> omega)
                | (unfold runN; dsimp only; (repeat' split) <;> omega)
                | (rw [HRF.out]; done)
                | (rw [HRF.out]; exact upd_ne _ (by omega))
                | (refine own_low ?_ _ _ (by first | (simp; done) | (simp; omega)); repeat (first | (with_reducible exact S8.out.row) | refine own_low ?_ _ _ (by first | (simp; done) | (simp; omega))))
                | (repeat (first | (with_reducible exact S8.out.below) | refine below_low ?_ _ _ (by first | (simp; done) | (simp; omega))))
        · have q2 : (l - 1 == 0) = false := by simp; omega
          by_cases q3 : c = 1
          · have q4 : (c - 1 == 0) = true := by simp; omega
            have HRF := Lib.hid (show runF f = fun i => f (i + 1) from if_pos (.inr (by rw [HF0.out]; exact q3)))
            go_wp2_with fail
            all_goals
              apply bodyPost_ret
              · simp [results, Tryz.results60, go_sem, y0, y1, y2, y3, y4, y5, y6, y7]
                exact rfl
              · rfl
              · rw [HF0.out]
                refine ⟨_, ret_run (by unfold runW; dsimp only; (repeat' split) <;> omega) (by unfold runL; dsimp only; (repeat' split) <;> omega), ?_⟩
                have hK0 := HNC.out
                first
                  | (refine task_run2 (ac_eq rfl rfl rfl ?_ ?_ ?_) ?_ (fun i hi => rfl) (jobs_none2 _ _ _ _ (runF f) (by omega)) ?_)
                  | (refine task_run2 (ac_eq rfl rfl rfl ?_ ?_ ?_) ?_ (fun i hi => ?_) (jobs_tail2 (B := w.heap.size + 2) (F := upd f 0 ⟨l - 1, c - 1, a, d⟩) ?_ (by omega)) ?_)
                  | (refine task_run2 (ac_eq rfl rfl rfl ?_ ?_ ?_) ?_ (fun i hi => ?_) (own_jobs2 (B := w.heap.size + 2) (f := upd f 0 ⟨l - 1, c - 1, a, d⟩) ?_ (by omega)) ?_)
                all_goals first
                  | (dsimp only; (repeat' split) <;> omega)
                  | (unfold runN; dsimp only; (repeat' split) <;> omega)
                  | (rw [HRF.out]; done)
                  | (rw [HRF.out]; exact upd_ne _ (by omega))
                  | (refine own_low ?_ _ _ (by first | (simp; done) | (simp; omega)); repeat (first | (with_reducible exact S8.out.row) | refine own_low ?_ _ _ (by first | (simp; done) | (simp; omega))))
                  | (repeat (first | (with_reducible exact S8.out.below) | refine below_low ?_ _ _ (by first | (simp; done) | (simp; omega))))
          · have q4 : (c - 1 == 0) = false := by simp; omega
            have HRF := Lib.hid (show runF f = upd f 0 ⟨l - 1, c - 1, a, d⟩ from by
              unfold runF
              rw [HF0.out, if_neg (by dsimp only; omega)]
              unfold runJ
              dsimp only
              rw [if_pos hc0])
            go_wp2_with fail
            all_goals
              apply bodyPost_ret
              · simp [results, Tryz.results60, go_sem, y0, y1, y2, y3, y4, y5, y6, y7]
                exact rfl
              · rfl
              · rw [HF0.out]
                refine ⟨_, ret_run (by unfold runW; dsimp only; (repeat' split) <;> omega) (by unfold runL; dsimp only; (repeat' split) <;> omega), ?_⟩
                have hK0 := HNC.out
                first
                  | (refine task_run2 (ac_eq rfl rfl rfl ?_ ?_ ?_) ?_ (fun i hi => rfl) (jobs_none2 _ _ _ _ (runF f) (by omega)) ?_)
                  | (refine task_run2 (ac_eq rfl rfl rfl ?_ ?_ ?_) ?_ (fun i hi => ?_) (jobs_tail2 (B := w.heap.size + 2) (F := upd f 0 ⟨l - 1, c - 1, a, d⟩) ?_ (by omega)) ?_)
                  | (refine task_run2 (ac_eq rfl rfl rfl ?_ ?_ ?_) ?_ (fun i hi => ?_) (own_jobs2 (B := w.heap.size + 2) (f := upd f 0 ⟨l - 1, c - 1, a, d⟩) ?_ (by omega)) ?_)
                all_goals first
                  | (dsimp only; (repeat' split) <;> omega)
                  | (unfold runN; dsimp only; (repeat' split) <;> omega)
                  | (rw [HRF.out]; done)
                  | (rw [HRF.out]; exact upd_ne _ (by omega))
                  | (refine own_low ?_ _ _ (by first | (simp; done) | (simp; omega)); repeat (first | (with_reducible exact S8.out.row) | refine own_low ?_ _ _ (by first | (simp; done) | (simp; omega))))
                  | (repeat (first | (with_reducible exact S8.out.below) | refine below_low ?_ _ _ (by first | (simp; done) | (simp; omega))))
    · have S7 := Lib.hid (S1.out ⟨l - 1, c, a, d⟩ (kg + 1) (ko + 1))
      go_upto_region 17 with fail
      go_cut [8] (fun jv wx => ∃ J, jv = .pointer (some ⟨J, 0, none⟩) ∧ St w p (.slice (some ⟨g, 0, none⟩) n c4) ⟨kg + 1, ko + 1, kn, kd, kc, kt⟩ J ⟨l - 1, c, a, d⟩ g n c4 (upd f 0 ⟨l - 1, c, a, d⟩) wx)
      case first =>
        go_wp2_with fail
        go_meet
        exact ⟨_, rfl, S7.out⟩
      case rest =>
        obtain ⟨wc0, rfl, hcut⟩ := hcut
        have S8 := Lib.hid hcut
        obtain ⟨x0, x1, x2, x3, x4, x5, x6, x7⟩ := hcut.t.cells
        obtain ⟨y0, y1, y2, y3, y4, y5, y6, y7⟩ := hcut.r.cells
        obtain ⟨j0, j1, j2, j3⟩ := hcut.j.cells
        have f3 : ∀ j, wc.frozen? ⟨w.heap.size, j, none⟩ = false := fun j => has_free hcut.t j
        have f4 : ∀ j, wc.frozen? ⟨w.heap.size + 1, j, none⟩ = false := fun j => has_free hcut.r j
        have hJl : w.heap.size + 2 ≤ wc0 := hcut.Jl
        have hsw : w.heap.size + 1 < wc.heap.size := has_lt hcut.r
        clear hcut S7 S1 f0 f2 e0 e1 e2 e3
        by_cases q1 : l = 1
        · have q2 : (l - 1 == 0) = true := by simp; omega
          have HRF := Lib.hid (show runF f = fun i => f (i + 1) from if_pos (.inl (by rw [HF0.out]; exact q1)))
          go_wp2_with fail
          all_goals
            apply bodyPost_ret
            · simp [results, Tryz.results60, go_sem, y0, y1, y2, y3, y4, y5, y6, y7]
              exact rfl
            · rfl
            · rw [HF0.out]
              refine ⟨_, ret_run (by unfold runW; dsimp only; (repeat' split) <;> omega) (by unfold runL; dsimp only; (repeat' split) <;> omega), ?_⟩
              have hK0 := HNC.out
              first
                | (refine task_run2 (ac_eq rfl rfl rfl ?_ ?_ ?_) ?_ (fun i hi => rfl) (jobs_none2 _ _ _ _ (runF f) (by omega)) ?_)
                | (refine task_run2 (ac_eq rfl rfl rfl ?_ ?_ ?_) ?_ (fun i hi => ?_) (jobs_tail2 (B := w.heap.size + 2) (F := upd f 0 ⟨l - 1, c, a, d⟩) ?_ (by omega)) ?_)
                | (refine task_run2 (ac_eq rfl rfl rfl ?_ ?_ ?_) ?_ (fun i hi => ?_) (own_jobs2 (B := w.heap.size + 2) (f := upd f 0 ⟨l - 1, c, a, d⟩) ?_ (by omega)) ?_)
              all_goals first
                | (dsimp only; (repeat' split) <;> omega)
                | (unfold runN; dsimp only; (repeat' split) <;> omega)
                | (rw [HRF.out]; done)
                | (rw [HRF.out]; exact upd_ne _ (by omega))
                | (refine own_low ?_ _ _ (by first | (simp; done) | (simp; omega)); repeat (first | (with_reducible exact S8.out.row) | refine own_low ?_ _ _ (by first | (simp; done) | (simp; omega))))
                | (repeat (first | (with_reducible exact S8.out.below) | refine below_low ?_ _ _ (by first | (simp; done) | (simp; omega))))
        · have q2 : (l - 1 == 0) = false := by simp; omega
          have HRF := Lib.hid (show runF f = upd f 0 ⟨l - 1, c, a, d⟩ from by
              unfold runF
              rw [HF0.out, if_neg (by dsimp only; omega)]
              unfold runJ
              dsimp only
              rw [if_neg hc0])
          go_wp2_with fail
          all_goals
            apply bodyPost_ret
            · simp [results, Tryz.results60, go_sem, y0, y1, y2, y3, y4, y5, y6, y7]
              exact rfl
            · rfl
            · rw [HF0.out]
              refine ⟨_, ret_run (by unfold runW; dsimp only; (repeat' split) <;> omega) (by unfold runL; dsimp only; (repeat' split) <;> omega), ?_⟩
              have hK0 := HNC.out
              first
                | (refine task_run2 (ac_eq rfl rfl rfl ?_ ?_ ?_) ?_ (fun i hi => rfl) (jobs_none2 _ _ _ _ (runF f) (by omega)) ?_)
                | (refine task_run2 (ac_eq rfl rfl rfl ?_ ?_ ?_) ?_ (fun i hi => ?_) (jobs_tail2 (B := w.heap.size + 2) (F := upd f 0 ⟨l - 1, c, a, d⟩) ?_ (by omega)) ?_)
                | (refine task_run2 (ac_eq rfl rfl rfl ?_ ?_ ?_) ?_ (fun i hi => ?_) (own_jobs2 (B := w.heap.size + 2) (f := upd f 0 ⟨l - 1, c, a, d⟩) ?_ (by omega)) ?_)
              all_goals first
                | (dsimp only; (repeat' split) <;> omega)
                | (unfold runN; dsimp only; (repeat' split) <;> omega)
                | (rw [HRF.out]; done)
                | (rw [HRF.out]; exact upd_ne _ (by omega))
                | (refine own_low ?_ _ _ (by first | (simp; done) | (simp; omega)); repeat (first | (with_reducible exact S8.out.row) | refine own_low ?_ _ _ (by first | (simp; done) | (simp; omega))))
                | (repeat (first | (with_reducible exact S8.out.below) | refine below_low ?_ _ _ (by first | (simp; done) | (simp; omega))))
/-- Run, every way. -/
theorem rrun_any2 (p : Int) (s : Value) (n : Nat) (f : Nat → Jb) (k : Ac) (now : Int) (w : World) (h : Jobs w s n f) :
    Calls Tryz.prog 60 #[tV p s k, .int .i64 now] w fun e w' => ∃ x, e = .returned (.tuple #[x, .int .i64 (if runE p n f k now = 0 then runW (f 0) else 0), .int .i64 (if runE p n f k now = 0 then runL (f 0) now else 0), .int .i64 (runE p n f k now)]) ∧
      TaskR2 w (if runE p n f k now = 0 then p else 0) (if runE p n f k now = 0 then runN n (f 0) else 0) (runF f) (if runE p n f k now = 0 then runK k (f 0) now else kZ) x w' := by
  by_cases hv : okT p n f k
  · by_cases hn : 0 ≤ now ∧ now < 1073741824
    · by_cases h0 : n = 0
      · have hE : runE p n f k now = 50 := by unfold runE; rw [if_neg (fun h => h hv), if_neg (fun h => h hn), if_pos h0]
        rw [hE]
        exact (rrun_none p s n f k now w h hv hn h0).mono fun e w' ⟨he, hb⟩ => ⟨_, he, zero_taskR2 _ hb⟩
      · by_cases hg : k.g = 1073741824
        · have hE : runE p n f k now = 60 := by unfold runE; rw [if_neg (fun h => h hv), if_neg (fun h => h hn), if_neg h0, if_pos hg]
          rw [hE]
          exact (rrun_time p s n f k now w h hv hn (by omega) hg).mono fun e w' ⟨he, hb⟩ => ⟨_, he, zero_taskR2 _ hb⟩
        · have hE : runE p n f k now = 0 := by unfold runE; rw [if_neg (fun h => h hv), if_neg (fun h => h hn), if_neg h0, if_neg hg]
          rw [hE]
          have hk := hv.2.2.2.1.1.2
          exact (rrun_ok2 p s n f k now w h hv hn (by omega) (by omega)).mono fun e w' ⟨x, he, hb⟩ => ⟨x, he, hb⟩
    · have hE : runE p n f k now = 1 := by unfold runE; rw [if_neg (fun h => h hv), if_pos hn]
      rw [hE]
      by_cases h1 : now < 0
      · exact (rrun_arg1 p s n f k now w h hv h1).mono fun e w' ⟨he, hb⟩ => ⟨_, he, zero_taskR2 _ hb⟩
      · exact (rrun_arg2 p s n f k now w h hv h1 (by omega)).mono fun e w' ⟨he, hb⟩ => ⟨_, he, zero_taskR2 _ hb⟩
  · have hE : runE p n f k now = 270 := if_pos hv
    rw [hE]
    exact (rrun_state p s n f k now w h hv).mono fun e w' ⟨he, hb⟩ => ⟨_, he, zero_taskR2 _ hb⟩
end Go.Proofs.YthbkinopgialmaaGreatDoor
