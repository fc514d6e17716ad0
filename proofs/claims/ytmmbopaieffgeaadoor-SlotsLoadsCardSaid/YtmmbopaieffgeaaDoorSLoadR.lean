/- The document's own Load of a table; no condition but those that each row names. -/
import Derived.Test.YtmmbopaieffgeaaDoorSNewR
import Derived.Test.YtmmbopaieffgeaaDoorSSlotsR
import Derived.Test.YtmmbopaieffgeaaDoorSLoadP
namespace Go.Proofs.YtmmbopaieffgeaaDoor
open Go.RowKit

set_option maxHeartbeats 2000000 in
set_option maxRecDepth 100000 in
theorem rload_no1 (S : Nat → Prop) (kind : Int) (gens : List Int) (v x y : Value) (w : World) (hv : Lst S w v (ints gens)) (h : ¬ (1 ≤ kind ∧ kind ≤ 3 ∧ 1 ≤ gens.length ∧ gens.length ≤ 4096)) :
    Calls Tryd.prog 15 #[.int .i64 kind, v, x, y] w fun e w' => e = .returned (.tuple #[rv 0 (.slice none 0 0) (.slice none 0 0) (.slice none 0 0), .int .i64 1]) ∧ Below w.heap.size w w' := by
  obtain ⟨p, cp, rfl, hm, hg⟩ := hv
  have e1 := ints_len gens
  rw [e1] at hm ⊢
  have HN := Lib.hid (fun w => rnew_no kind gens.length w (by omega))
  clear h hg e1
  go_enter Tryd.func15, Tryd.ntmps15
  go_wp2_with fail
  refine (HN.out _).mono ?_
  rintro e w1 ⟨rfl, hb⟩
  obtain ⟨hc1, hf1⟩ := bcell hb
  have hz : w.heap.size < w1.heap.size := by have := hb.size; simp at this; omega
  have hbw : Below w.heap.size w w1 := ((Below.refl w.heap.size w).alloc (Nat.le_refl _) _).trans (hb.mono (by simp))
  have t0 : w1.cell? ⟨w.heap.size, 0, none⟩ = some (.int .i64 0) := (hc1 _ _ (by simp)).trans (by simp)
  have t1 : w1.cell? ⟨w.heap.size, 1, none⟩ = some (.slice none 0 0) := (hc1 _ _ (by simp)).trans (by simp)
  have t2 : w1.cell? ⟨w.heap.size, 2, none⟩ = some (.slice none 0 0) := (hc1 _ _ (by simp)).trans (by simp)
  have t3 : w1.cell? ⟨w.heap.size, 3, none⟩ = some (.slice none 0 0) := (hc1 _ _ (by simp)).trans (by simp)
  have tf : ∀ j, w1.frozen? ⟨w.heap.size, j, none⟩ = false := fun j => (hf1 _ _ (by simp)).trans (by simp)
  clear hc1 hf1
  go_wp2_with fail
  refine bodyPost_ret (v := .tuple #[rv 0 (.slice none 0 0) (.slice none 0 0) (.slice none 0 0), .int .i64 1]) ?r1 rfl ?_
  case r1 => simp [results, Tryd.results15, go_sem, t0, t1, t2, t3, hz]
  exact ⟨rfl, below_tail hbw w.heap.size (Nat.le_refl _) _ _ _ _ _ (by omega)⟩

set_option maxHeartbeats 4000000 in
set_option maxRecDepth 100000 in
theorem rload_no2 (S : Nat → Prop) (kind : Int) (gens : List Int) (taken : List Bool) (things : List Int) (v x y : Value) (w : World) (hv : Lst S w v (ints gens)) (hx : Lst S w x (bools taken)) (hy : Lst S w y (ints things))
    (h1 : 1 ≤ kind) (h3 : kind ≤ 3) (n1 : 1 ≤ gens.length) (n4 : gens.length ≤ 4096) (h : ¬ ((taken.length = gens.length ∧ standB gens taken gens.length) ∧ things.length = rank taken taken.length)) :
    Calls Tryd.prog 15 #[.int .i64 kind, v, x, y] w fun e w' => e = .returned (.tuple #[rv 0 (.slice none 0 0) (.slice none 0 0) (.slice none 0 0), .int .i64 270]) ∧ Below w.heap.size w w' := by
  have HN := Lib.hid (fun w => rnew_own kind gens.length w h1 h3 n1 n4)
  have HSN := Lib.hid (fun W (hb : Below w.heap.size w W) => rslots_no S gens taken v x W (hv.below hb) (hx.below hb))
  have HSY := Lib.hid (fun W (hb : Below w.heap.size w W) => rslots_yes S gens taken v x W (hv.below hb) (hx.below hb))
  obtain ⟨p, cp, rfl, hm, hg⟩ := hv
  obtain ⟨q, cq, rfl, hm2, ht⟩ := hx
  obtain ⟨r, cr, rfl, hm3, hy⟩ := hy
  have e1 := ints_len gens
  have e2 := bools_len taken
  have e3 := ints_len things
  rw [e1] at hm HSN HSY ⊢
  rw [e2] at hm2 HSN HSY ⊢
  rw [e3] at hm3 ⊢
  clear hg ht hy e1 e2 e3
  by_cases hs : taken.length = gens.length ∧ standB gens taken gens.length
  · have hne : ¬ (things.length = rank taken gens.length) := fun k => h ⟨hs, by rw [hs.1]; exact k⟩
    have hb1 : ((rank taken gens.length : Nat) : Int) != ((things.length : Nat) : Int) := by rw [bne_iff_ne]; omega
    have HS := Lib.hid hs
    have hrk := rank_le taken gens.length
    clear h hs hne
    generalize rank taken gens.length = rk at *
    go_enter Tryd.func15, Tryd.ntmps15
    go_wp2_with fail
    refine (HN.out _).mono ?_
    rintro e w1 ⟨g1, c1, g2, c2, g3, c3, rfl, hO, hb⟩
    clear hO
    obtain ⟨hc1, hf1⟩ := bcell hb
    have hz : w.heap.size < w1.heap.size := by have := hb.size; simp at this; omega
    have hbw : Below w.heap.size w w1 := ((Below.refl w.heap.size w).alloc (Nat.le_refl _) _).trans (hb.mono (by simp))
    have t0 : w1.cell? ⟨w.heap.size, 0, none⟩ = some (.int .i64 0) := (hc1 _ _ (by simp)).trans (by simp)
    have t1 : w1.cell? ⟨w.heap.size, 1, none⟩ = some (.slice none 0 0) := (hc1 _ _ (by simp)).trans (by simp)
    have t2 : w1.cell? ⟨w.heap.size, 2, none⟩ = some (.slice none 0 0) := (hc1 _ _ (by simp)).trans (by simp)
    have t3 : w1.cell? ⟨w.heap.size, 3, none⟩ = some (.slice none 0 0) := (hc1 _ _ (by simp)).trans (by simp)
    have tf : ∀ j, w1.frozen? ⟨w.heap.size, j, none⟩ = false := fun j => (hf1 _ _ (by simp)).trans (by simp)
    clear hc1 hf1
    go_wp2_with fail
    refine (HSY.out _ (below_alloc hbw _) HS.out.1 HS.out.2).mono ?_
    rintro e w2 ⟨rfl, rfl⟩
    go_wp2_with fail
    refine bodyPost_ret (v := .tuple #[rv 0 (.slice none 0 0) (.slice none 0 0) (.slice none 0 0), .int .i64 270]) ?r1 rfl ?_
    case r1 => simp [results, Tryd.results15, go_sem, t0, t1, t2, t3, hz]
    exact ⟨rfl, below_tail hbw w.heap.size (Nat.le_refl _) _ _ _ _ _ (by omega)⟩
  · have HS := Lib.hid hs
    clear h hs
    go_enter Tryd.func15, Tryd.ntmps15
    go_wp2_with fail
    refine (HN.out _).mono ?_
    rintro e w1 ⟨g1, c1, g2, c2, g3, c3, rfl, hO, hb⟩
    clear hO
    obtain ⟨hc1, hf1⟩ := bcell hb
    have hz : w.heap.size < w1.heap.size := by have := hb.size; simp at this; omega
    have hbw : Below w.heap.size w w1 := ((Below.refl w.heap.size w).alloc (Nat.le_refl _) _).trans (hb.mono (by simp))
    have t0 : w1.cell? ⟨w.heap.size, 0, none⟩ = some (.int .i64 0) := (hc1 _ _ (by simp)).trans (by simp)
    have t1 : w1.cell? ⟨w.heap.size, 1, none⟩ = some (.slice none 0 0) := (hc1 _ _ (by simp)).trans (by simp)
    have t2 : w1.cell? ⟨w.heap.size, 2, none⟩ = some (.slice none 0 0) := (hc1 _ _ (by simp)).trans (by simp)
    have t3 : w1.cell? ⟨w.heap.size, 3, none⟩ = some (.slice none 0 0) := (hc1 _ _ (by simp)).trans (by simp)
    have tf : ∀ j, w1.frozen? ⟨w.heap.size, j, none⟩ = false := fun j => (hf1 _ _ (by simp)).trans (by simp)
    clear hc1 hf1
    go_wp2_with fail
    refine (HSN.out _ (below_alloc hbw _) HS.out).mono ?_
    rintro e w2 ⟨rfl, rfl⟩
    go_wp2_with fail
    refine bodyPost_ret (v := .tuple #[rv 0 (.slice none 0 0) (.slice none 0 0) (.slice none 0 0), .int .i64 270]) ?r1 rfl ?_
    case r1 => simp [results, Tryd.results15, go_sem, t0, t1, t2, t3, hz]
    exact ⟨rfl, below_tail hbw w.heap.size (Nat.le_refl _) _ _ _ _ _ (by omega)⟩

/-- The document's table while the slots are laid. -/
def midT (kind : Int) (gens : List Int) (taken : List Bool) (things : List Int) (k : Nat) : Tab :=
  ⟨kind, gens.take k ++ List.replicate (gens.length - k) 1, taken.take k ++ List.replicate (taken.length - k) false, fillTo gens.length k taken things⟩
theorem midT_0 (kind : Int) (gens : List Int) (taken : List Bool) (things : List Int) (h : taken.length = gens.length) : midT kind gens taken things 0 = Tab.new kind gens.length := by
  unfold midT Tab.new
  rw [fillTo_0, h]
  simp
theorem midT_n (kind : Int) (gens : List Int) (taken : List Bool) (things : List Int) (h : taken.length = gens.length) : midT kind gens taken things gens.length = Tab.load kind gens taken things := by
  unfold midT Tab.load
  rw [fillTo_n, h]
  have : taken.take gens.length = taken := List.take_of_length_le (by omega)
  simp [this]
theorem take_rep_set {α : Type} (l : List α) (z d : α) (k : Nat) (h : k < l.length) : (l.take k ++ List.replicate (l.length - k) z).set k (l.getD k d) = l.take (k + 1) ++ List.replicate (l.length - (k + 1)) z := by
  rw [List.set_append, if_neg (by simp; omega), List.length_take, Nat.min_eq_left (by omega), Nat.sub_self]
  have e : l.length - k = (l.length - (k + 1)) + 1 := by omega
  rw [e, List.replicate_succ, List.set_cons_zero, List.take_succ_eq_append_getElem h, List.append_assoc]
  simp [List.getD_eq_getElem?_getD, h]
theorem midT_len (kind : Int) (gens : List Int) (taken : List Bool) (things : List Int) (k : Nat) (hk : k ≤ gens.length) (h : taken.length = gens.length) : (midT kind gens taken things k).gens.length = gens.length ∧ (midT kind gens taken things k).taken.length = gens.length ∧ (midT kind gens taken things k).list.length = gens.length := by
  unfold midT
  refine ⟨?_, ?_, fillTo_len _ _ _ _⟩
  · simp; omega
  · simp; omega
theorem own3_len {B : Nat} {w : World} {A A' : Tab} {g1 c1 g2 c2 g3 c3 : Nat} (h : Own3 B w A g1 c1 g2 c2 g3 c3) (e : A = A') : Own3 B w A' g1 c1 g2 c2 g3 c3 := e ▸ h

set_option maxHeartbeats 8000000 in
set_option maxRecDepth 100000 in
theorem rload_ok (S T : Nat → Prop) (kind : Int) (gens : List Int) (taken : List Bool) (things : List Int) (v x y : Value) (w : World) (hT : ∀ x, T x → x < w.heap.size) (hv : Lst S w v (ints gens)) (hx : Lst S w x (bools taken)) (hy : Lst S w y (ints things))
    (h1 : 1 ≤ kind) (h3 : kind ≤ 3) (n1 : 1 ≤ gens.length) (n4 : gens.length ≤ 4096) (hlt : taken.length = gens.length) (ho : standB gens taken gens.length) (hr : things.length = rank taken taken.length) :
    Calls Tryd.prog 15 #[.int .i64 kind, v, x, y] w (TabPost T w (Tab.load kind gens taken things) 0) := by
  have HN := Lib.hid (fun w => rnew_own kind gens.length w h1 h3 n1 n4)
  have HSY := Lib.hid (fun W (hb : Below w.heap.size w W) => rslots_yes S gens taken v x W (hv.below hb) (hx.below hb) hlt ho)
  have HGD := Lib.hid (load_good (things := things) h1 h3 n1 n4 hlt ho)
  have HTT := Lib.hid hT
  obtain ⟨p, cp, rfl, hm, hg⟩ := hv
  obtain ⟨q, cq, rfl, hm2, ht⟩ := hx
  obtain ⟨r, cr, rfl, hm3, hy⟩ := hy
  have e1 := ints_len gens
  have e2 := bools_len taken
  have e3 := ints_len things
  rw [e1] at hm HSY ⊢
  rw [e2] at hm2 HSY ⊢
  rw [e3] at hm3 ⊢
  obtain ⟨b1, o1, rfl, _, hd1⟩ := hg 0 _ (ints_at (by omega))
  obtain ⟨b2, o2, rfl, _, hd2⟩ := ht 0 _ (bools_at (by omega))
  have k1 := cell_lt hd1
  have k2 := cell_lt hd2
  simp only at k1 k2
  have HG := Lib.hid (show ∀ j u, (ints gens)[j]? = some u → w.cell? ⟨b1, o1 + j, none⟩ = some u from fun j u hu => by
    obtain ⟨b, off, e, _, hc⟩ := hg j u hu
    injection e with e
    injection e with e1 e2
    subst e1 e2; exact hc)
  have HT := Lib.hid (show ∀ j u, (bools taken)[j]? = some u → w.cell? ⟨b2, o2 + j, none⟩ = some u from fun j u hu => by
    obtain ⟨b, off, e, _, hc⟩ := ht j u hu
    injection e with e
    injection e with e1 e2
    subst e1 e2; exact hc)
  have HY := Lib.hid hy
  have HR := Lib.hid (show things.length = rank taken gens.length by rw [hr, hlt])
  have hrb : (((rank taken gens.length : Nat) : Int) != ((things.length : Nat) : Int)) = false := by rw [bne_eq_false_iff_eq]; have := HR.out; omega
  have HLT := Lib.hid hlt
  have hrk0 := rank_le taken gens.length
  rw [hlt] at HSY ⊢
  clear hg ht hy hr ho e1 e2 e3 hlt hd1 hd2 hm2 hT
  generalize hrg : rank taken gens.length = rg at *
  have HRG := Lib.hid hrg
  clear hrg
  go_enter Tryd.func15, Tryd.ntmps15
  go_wp2_with fail
  refine (HN.out _).mono ?_
  rintro e w1 ⟨g1, c1, g2, c2, g3, c3, rfl, hO, hb⟩
  obtain ⟨hc1, hf1⟩ := bcell hb
  have hz : w.heap.size < w1.heap.size := by have := hb.size; simp at this; omega
  have hbw : Below w.heap.size w w1 := ((Below.refl w.heap.size w).alloc (Nat.le_refl _) _).trans (hb.mono (by simp))
  have t0 : w1.cell? ⟨w.heap.size, 0, none⟩ = some (.int .i64 0) := (hc1 _ _ (by simp)).trans (by simp)
  have t1 : w1.cell? ⟨w.heap.size, 1, none⟩ = some (.slice none 0 0) := (hc1 _ _ (by simp)).trans (by simp)
  have t2 : w1.cell? ⟨w.heap.size, 2, none⟩ = some (.slice none 0 0) := (hc1 _ _ (by simp)).trans (by simp)
  have t3 : w1.cell? ⟨w.heap.size, 3, none⟩ = some (.slice none 0 0) := (hc1 _ _ (by simp)).trans (by simp)
  have tf : ∀ j, w1.frozen? ⟨w.heap.size, j, none⟩ = false := fun j => (hf1 _ _ (by simp)).trans (by simp)
  have l1 := hO.g.lt g1 rfl
  have l2 := hO.t.lt g2 rfl
  have l3 := hO.l.lt g3 rfl
  simp at l1 l2 l3
  have HO := Lib.hid (show Own3 (w.heap.size + 1) w1 (midT kind gens taken things 0) g1 c1 g2 c2 g3 c3 by rw [midT_0 _ _ _ _ HLT.out]; simpa using hO)
  clear hc1 hf1 hO
  go_upto_region 4 with fail
  go_cut [12, 13] (fun s12 s13 wx => s12 = .int .i64 rg ∧ s13 = .int .i64 0 ∧ wx.cell? ⟨w1.heap.size, 0, none⟩ = some (.int .i64 kind) ∧ wx.cell? ⟨w1.heap.size, 1, none⟩ = some (.slice (some ⟨g1, 0, none⟩) gens.length c1) ∧ wx.cell? ⟨w1.heap.size, 2, none⟩ = some (.slice (some ⟨g2, 0, none⟩) gens.length c2) ∧ wx.cell? ⟨w1.heap.size, 3, none⟩ = some (.slice (some ⟨g3, 0, none⟩) gens.length c3) ∧
    wx.cell? ⟨w.heap.size, 0, none⟩ = some (.int .i64 0) ∧ wx.cell? ⟨w.heap.size, 1, none⟩ = some (.slice none 0 0) ∧ wx.cell? ⟨w.heap.size, 2, none⟩ = some (.slice none 0 0) ∧ wx.cell? ⟨w.heap.size, 3, none⟩ = some (.slice none 0 0) ∧ (∀ j, wx.frozen? ⟨w.heap.size, j, none⟩ = false) ∧ Hid (Own3 (w.heap.size + 1) wx (midT kind gens taken things 0) g1 c1 g2 c2 g3 c3) ∧ Below w.heap.size w wx ∧ w1.heap.size < wx.heap.size)
  case first =>
    go_wp2_with fail
    refine (HSY.out _ (below_alloc hbw _)).mono ?_
    rintro e w2 ⟨rfl, rfl⟩
    go_wp2_with fail
    go_meet
    have hc : ∀ (cs : Array Value) j, (w1.alloc (.cells cs 30)).cell? ⟨w1.heap.size, j, none⟩ = cs[j]? := fun cs j => cell_of_row _ _ j cs 30 (0, 0) (heap_alloc_new w1 _)
    have ho : ∀ (o : Obj) j, (w1.alloc o).cell? ⟨w.heap.size, j, none⟩ = w1.cell? ⟨w.heap.size, j, none⟩ := fun o j => World.cell?_alloc_lt _ _ ⟨w.heap.size, j, none⟩ hz
    refine ⟨rfl, rfl, hc _ 0, hc _ 1, hc _ 2, hc _ 3, (ho _ 0).trans t0, (ho _ 1).trans t1, (ho _ 2).trans t2, (ho _ 3).trans t3, fun j => (World.frozen?_alloc_old _ _ _ (Nat.ne_of_lt hz)).trans (tf j), Lib.hid ⟨HO.out.g.alloc _, HO.out.t.alloc _, HO.out.l.alloc _, HO.out.n12, HO.out.n13, HO.out.n23⟩, below_alloc hbw _, by simp⟩
  case rest =>
    obtain ⟨W0, rfl⟩ : ∃ W0 : World, W0 = wc := ⟨_, rfl⟩
    obtain ⟨rfl, rfl, p0, p1, p2, p3, u0, u1, u2, u3, uf, HOW, hbc, hsz⟩ := hcut
    clear t0 t1 t2 t3 tf HO hb hbw
    have HD := Lib.hid (show ∀ W, Keeps (fun y => y = g1 ∨ y = g2 ∨ y = g3) W0 W → (W.cell? ⟨w1.heap.size, 1, none⟩ = some (.slice (some ⟨g1, 0, none⟩) gens.length c1) ∧ W.cell? ⟨w1.heap.size, 2, none⟩ = some (.slice (some ⟨g2, 0, none⟩) gens.length c2) ∧ W.cell? ⟨w1.heap.size, 3, none⟩ = some (.slice (some ⟨g3, 0, none⟩) gens.length c3) ∧ Below w.heap.size w W) from fun W hk =>
      have hn : ¬ (w1.heap.size = g1 ∨ w1.heap.size = g2 ∨ w1.heap.size = g3) := by omega
      ⟨(hk.cell (p := ⟨w1.heap.size, 1, none⟩) hsz hn).trans p1, (hk.cell (p := ⟨w1.heap.size, 2, none⟩) hsz hn).trans p2, (hk.cell (p := ⟨w1.heap.size, 3, none⟩) hsz hn).trans p3, below_keeps hbc hk (fun y e => by omega)⟩)
    have HU := Lib.hid (show ∀ W, Keeps (fun y => y = g1 ∨ y = g2 ∨ y = g3) W0 W → (W.cell? ⟨w1.heap.size, 0, none⟩ = some (.int .i64 kind) ∧ W.cell? ⟨w.heap.size, 0, none⟩ = some (.int .i64 0) ∧ W.cell? ⟨w.heap.size, 1, none⟩ = some (.slice none 0 0) ∧ W.cell? ⟨w.heap.size, 2, none⟩ = some (.slice none 0 0) ∧ W.cell? ⟨w.heap.size, 3, none⟩ = some (.slice none 0 0) ∧ (∀ j, W.frozen? ⟨w.heap.size, j, none⟩ = false)) from fun W hk =>
      have hn : ¬ (w1.heap.size = g1 ∨ w1.heap.size = g2 ∨ w1.heap.size = g3) := by omega
      have hn2 : ¬ (w.heap.size = g1 ∨ w.heap.size = g2 ∨ w.heap.size = g3) := by omega
      have hz2 : w.heap.size < W0.heap.size := by omega
      ⟨(hk.cell (p := ⟨w1.heap.size, 0, none⟩) hsz hn).trans p0, (hk.cell (p := ⟨w.heap.size, 0, none⟩) hz2 hn2).trans u0, (hk.cell (p := ⟨w.heap.size, 1, none⟩) hz2 hn2).trans u1, (hk.cell (p := ⟨w.heap.size, 2, none⟩) hz2 hn2).trans u2, (hk.cell (p := ⟨w.heap.size, 3, none⟩) hz2 hn2).trans u3, fun j => (World.frozen?_of_block (hk.block w.heap.size hz2 hn2)).trans (uf j)⟩)
    clear p0 p1 p2 p3 u0 u1 u2 u3 uf hbc
    go_wp2_with fail
    go_loopw [14, 15] (fun at' i wr => ∃ k : Nat, k ≤ gens.length ∧ i = .int .i64 k ∧ at' = .int .i64 (rank taken k : Nat) ∧ Hid (Own3 (w.heap.size + 1) wr (midT kind gens taken things k) g1 c1 g2 c2 g3 c3) ∧ Hid (Keeps (fun y => y = g1 ∨ y = g2 ∨ y = g3) W0 wr)) (fun _ i _ => gens.length - (intOf i).toNat)
    case atStart => exact ⟨0, Nat.zero_le _, rfl, rfl, HOW, Lib.hid (Keeps.refl _ _)⟩
    case round =>
      obtain ⟨k, hk, rfl, rfl, HO, HKP⟩ := hrel
      obtain ⟨lg, lt', ll⟩ := midT_len kind gens taken things k hk HLT.out
      by_cases hlt : k < gens.length
      · have z0 : (0 : Int) ≤ (k : Int) := by omega
        have z1 : (k : Int) < (gens.length : Int) := by omega
        have hrk := rank_le taken k
        have hrk1 := rank_mono taken (i := k + 1) (j := gens.length) (by omega)
        have hs := rank_succ taken k
        have HTS := Lib.hid (take_rep_set gens 1 0 k hlt)
        have HTB := Lib.hid (take_rep_set taken false false k (by have := HLT.out; omega))
        have HFY := Lib.hid (fun h => fillTo_yes (n := gens.length) (k := k) (taken := taken) (things := things) h)
        have HFN := Lib.hid (fun h => fillTo_no (n := gens.length) (k := k) (taken := taken) (things := things) h)
        rw [HRG.out] at hrk1
        have HSS := Lib.hid hs
        have HRK := Lib.hid hrk1
        clear hs hrk1
        generalize hgk : gens.getD k 0 = gk at *
        generalize htk : taken.getD k false = tk at *
        generalize hrn : rank taken k = rn at *
        have HGK := Lib.hid hgk
        have HTK := Lib.hid htk
        have HRN := Lib.hid hrn
        clear hgk htk hrn
        obtain ⟨f1, f2, f3, hbk⟩ := HD.out wr HKP.out
        have q1 : wr.cell? ⟨b1, o1 + k, none⟩ = some (.int .i64 gk) := (hbk.cell (p := ⟨b1, o1 + k, none⟩) k1).trans (by rw [← HGK.out]; exact HG.out k _ (ints_at hlt))
        have hog := HO.out.g
        rw [lg] at hog
        have q2 := hog.cellAt k (by omega)
        rw [ints_at (by omega)] at q2
        have q3 := hog.frozenAt k
        clear hog
        go_upto_region 11 with fail
        go_cut [] (fun wx => Hid (Own3 (w.heap.size + 1) wx { midT kind gens taken things k with gens := (midT kind gens taken things k).gens.set k gk } g1 c1 g2 c2 g3 c3) ∧ Hid (Keeps (fun y => y = g1 ∨ y = g2 ∨ y = g3) W0 wx))
        case first =>
          go_still_tail 8, (by kernel_rfl)
          change wpList _ _ _ _ _ wr.drew
          go_wp2_with fail
          go_meet
          have h4 := own3_gens HO.out k gk
          exact ⟨Lib.hid ⟨own_drew h4.g, own_drew h4.t, own_drew h4.l, h4.n12, h4.n13, h4.n23⟩, Lib.hid (HKP.out.setCell _ _ (.inl rfl)).drew⟩
        case rest =>
          obtain ⟨W1, rfl⟩ : ∃ W1 : World, W1 = wc := ⟨_, rfl⟩
          obtain ⟨HO2, HKP2⟩ := hcut
          clear f1 f2 f3 q1 q2 q3 hbk
          obtain ⟨f1, f2, f3, hbk⟩ := HD.out W1 HKP2.out
          have q1 : W1.cell? ⟨b2, o2 + k, none⟩ = some (.bool tk) := (hbk.cell (p := ⟨b2, o2 + k, none⟩) k2).trans (by rw [← HTK.out]; exact HT.out k _ (bools_at (by have := HLT.out; omega)))
          have hot := HO2.out.t
          simp only at hot
          rw [lt'] at hot
          have q2 := hot.cellAt k (by omega)
          rw [bools_at (by omega)] at q2
          have q3 := hot.frozenAt k
          clear hot
          go_upto_region 12 with fail
          go_cut [] (fun wx => Hid (Own3 (w.heap.size + 1) wx { midT kind gens taken things k with gens := (midT kind gens taken things k).gens.set k gk, taken := (midT kind gens taken things k).taken.set k tk } g1 c1 g2 c2 g3 c3) ∧ Hid (Keeps (fun y => y = g1 ∨ y = g2 ∨ y = g3) W0 wx))
          case first =>
            go_still_tail 8, (by kernel_rfl)
            change wpList _ _ _ _ _ W1.drew
            go_wp2_with fail
            go_meet
            have h4 := own3_taken HO2.out k tk
            exact ⟨Lib.hid ⟨own_drew h4.g, own_drew h4.t, own_drew h4.l, h4.n12, h4.n13, h4.n23⟩, Lib.hid (HKP2.out.setCell _ _ (.inr (.inl rfl))).drew⟩
          case rest =>
            obtain ⟨W2, rfl⟩ : ∃ W2 : World, W2 = wc := ⟨_, rfl⟩
            obtain ⟨HO3, HKP3⟩ := hcut
            clear f1 f2 f3 q1 q2 q3 hbk
            obtain ⟨f1, f2, f3, hbk⟩ := HD.out W2 HKP3.out
            have q1 : W2.cell? ⟨b2, o2 + k, none⟩ = some (.bool tk) := (hbk.cell (p := ⟨b2, o2 + k, none⟩) k2).trans (by rw [← HTK.out]; exact HT.out k _ (bools_at (by have := HLT.out; omega)))
            have e1 : { midT kind gens taken things k with gens := (midT kind gens taken things k).gens.set k gk, taken := (midT kind gens taken things k).taken.set k tk } = (⟨kind, gens.take (k + 1) ++ List.replicate (gens.length - (k + 1)) 1, taken.take (k + 1) ++ List.replicate (taken.length - (k + 1)) false, fillTo gens.length k taken things⟩ : Tab) := by
              unfold midT
              simp only
              rw [HTS.out, HTB.out]
            have HE1 := Lib.hid e1
            clear e1
            cases tk with
            | true =>
              have hrl : rn < things.length := by have h1 := HSS.out; rw [if_pos rfl] at h1; have h2 := HRK.out; rw [h1] at h2; have := HR.out; omega
              obtain ⟨b3, o3, rfl, _, hd3⟩ := HY.out rn _ (ints_at hrl)
              have q4 : W2.cell? ⟨b3, o3 + rn, none⟩ = some (.int .i64 (things.getD rn 0)) := (hbk.cell (p := ⟨b3, o3 + rn, none⟩) (cell_lt hd3)).trans hd3
              have hol := HO3.out.l
              simp only at hol
              rw [ll] at hol
              have q2 := hol.cellAt k (by omega)
              rw [ints_at (by omega)] at q2
              have q3 := hol.frozenAt k
              have z2 : (0 : Int) ≤ (rn : Int) := by omega
              have z3 : (rn : Int) < (things.length : Int) := by omega
              clear hol hd3
              have hst := HFY.out rfl
              have HST := Lib.hid hst
              clear hst
              generalize things.getD rn 0 = th at *
              go_upto_region 14 with fail
              go_cut [] (fun wx => Hid (Own3 (w.heap.size + 1) wx (midT kind gens taken things (k + 1)) g1 c1 g2 c2 g3 c3) ∧ Hid (Keeps (fun y => y = g1 ∨ y = g2 ∨ y = g3) W0 wx))
              case first =>
                go_still_tail 8, (by kernel_rfl)
                change wpList _ _ _ _ _ W2.drew
                go_wp2_with fail
                go_meet
                have h4 := own3_list (own3_len HO3.out HE1.out) k th
                simp only at h4
                rw [← HST.out] at h4
                exact ⟨Lib.hid ⟨own_drew h4.g, own_drew h4.t, own_drew h4.l, h4.n12, h4.n13, h4.n23⟩, Lib.hid (HKP3.out.setCell _ _ (.inr (.inr rfl))).drew⟩
              case rest =>
                obtain ⟨HO4, HKP4⟩ := hcut
                clear f1 f2 f3 q1 q2 q3 q4 hbk
                go_wp2_with fail
                go_roundw
                case rel => exact ⟨k + 1, by omega, by go_num, by rw [HSS.out]; go_num, HO4, HKP4⟩
                case measure => simp [intOf]; omega
            | false =>
              have HO4 := Lib.hid (own3_len (own3_len HO3.out HE1.out) (show _ = midT kind gens taken things (k + 1) by unfold midT; rw [HFN.out rfl]))
              go_wp2_with fail
              go_roundw
              case rel => exact ⟨k + 1, by omega, by go_num, by rw [HSS.out]; rfl, HO4, HKP3⟩
              case measure => simp [intOf]; omega
      · obtain rfl : k = gens.length := by omega
        obtain ⟨v0, t0, t1, t2, t3, tf⟩ := HU.out wr HKP.out
        obtain ⟨f1, f2, f3, hbk⟩ := HD.out wr HKP.out
        have hO := own3_len HO.out (midT_n kind gens taken things HLT.out)
        have hRT := Lib.hid (RT.of_own3 (S := fun y => T y ∨ y = w.heap.size) hO HGD.out (fun y hy => by rcases hy with hy | rfl; have := HTT.out y hy; omega; omega))
        clear hO
        go_wp2_with fail
        refine bodyPost_ret (v := .tuple #[rv kind (.slice (some ⟨g1, 0, none⟩) gens.length c1) (.slice (some ⟨g2, 0, none⟩) gens.length c2) (.slice (some ⟨g3, 0, none⟩) gens.length c3), .int .i64 0]) ?r1 rfl ?_
        case r1 => simp [results, Tryd.results15, go_sem, t0, t1, t2, t3]
        have hk4 := fun u0 u1 u2 u3 => ((((Keeps.refl (fun y => y = w.heap.size) wr).setCell ⟨w.heap.size, 0, none⟩ u0 rfl).setCell ⟨w.heap.size, 1, none⟩ u1 rfl).setCell ⟨w.heap.size, 2, none⟩ u2 rfl).setCell ⟨w.heap.size, 3, none⟩ u3 rfl
        have hr := hRT.out
        rw [show (Tab.load kind gens taken things).gens.length = gens.length from rfl, show (Tab.load kind gens taken things).taken.length = gens.length from HLT.out, show (Tab.load kind gens taken things).list.length = gens.length from fillL_len _ _ _] at hr
        exact ⟨_, _, _, rfl, (hr.keeps ((hk4 _ _ _ _).mono fun b hb => .inr hb)).mono fun b _ hb => .inl hb, below_keeps hbk (hk4 _ _ _ _) (fun b hb => by omega)⟩
end Go.Proofs.YtmmbopaieffgeaaDoor
