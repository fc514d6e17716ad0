/- Texts of stages 3, 4, 12 and 13 that stand together: ZLoadP ZLeaf ZLeafB ZLeafA ZLeafP ZLeafL ZLeafO ZLeafS; no condition but those that each row names. -/
import Derived.Test.YthbkinopgialmaaGreatDoorZO4
import Derived.Test.YthbkinopgialmaaGreatDoorZO5
import Derived.Test.YthbkinopgialmaaGreatDoorZO6
import Derived.StillTailTactics
import Derived.Deep.RegionLaw
/- The program's Load of a table of tasks: refused where the document refuses, else the table of the slots and tasks; no condition but those that each row names. -/
namespace Go.Proofs.YthbkinopgialmaaGreatDoor
open Go.RowKit Tsk

/-- copy over the whole of a row of the call's own. -/
theorem wpList_copy_row {P : Program} {w : World} {ops : Array Oper} {rest : List Oper} {o : Oper} {a : Act} {Q : Exit → Act → World → Prop} (hgd : o.guard = none) (d s : Operand) (dT sT : TypeId)
    (ho : o.op = .call { callee := .builtin .copy, args := #[d, s], argTypes := #[dT, sT] }) (elem : TypeId) (hu : P.underlying dT = some (.slice elem)) (hsz : (P.info? elem).map (·.size) = some 1)
    (B g n cap : Nat) (xs : List Value) (hown : w.ownsRow B elem 1 (.slice (some ⟨g, 0, none⟩) n cap) n xs) (ad : Addr) (sCap : Nat) (hd : a.eval d = .slice (some ⟨g, 0, none⟩) n cap) (hs : a.eval s = .slice (some ad) n sCap)
    (cs : List Value) (hn : cs.length = n) (hsrc : ∀ j v, cs[j]? = some v → w.cell? (ad.add j) = some v) (h1 : ∀ v ∈ cs, v.oneCell' = true)
    (h : ∀ w', w'.ownsRow B elem 1 (.slice (some ⟨g, 0, none⟩) n cap) n cs → Keeps (fun x => x = g) w w' → wpList P ops Q rest (a.put o.dst (goInt n)) w') : wpList P ops Q (o :: rest) a w := by
  rcases hown.2 with ⟨e, _⟩ | ⟨g', cap', cur, e, hb, hg, hnc, hcm, hcs, htake⟩
  · simp at e
  · simp only [Value.slice.injEq, Option.some.injEq, Addr.mk.injEq, and_true, true_and] at e
    obtain ⟨rfl, rfl⟩ := e
    refine wpList_copy_own hgd d s dT sT ho elem hu hsz g 0 n cap ad n sCap hd hs cur elem hg cs (by rw [hn]; exact (Nat.min_self n).symm) hsrc (by omega) h1 ?_
    rw [hn]
    refine h _ ⟨by omega, .inr ⟨g, cap, _, rfl, hb, setRow_heap w g cur _ elem (0, 0) hg, hnc, hcm, ?_, ?_⟩⟩ ⟨rfl, rfl, rfl, by simp [World.setRow], fun b _ hne => setRow_other w g b _ hne⟩
    · simp; omega
    · simp [hn]

theorem below_set8 {B g : Nat} {w W : World} (h : Below B w W) (hg : B ≤ g) (i : Nat) (v0 v1 v2 v3 v4 v5 v6 v7 : Value) : Below B w ((((((((W.setCell ⟨g, i * 8, none⟩ v0).setCell ⟨g, i * 8 + 1, none⟩ v1).setCell ⟨g, i * 8 + 2, none⟩ v2).setCell ⟨g, i * 8 + 3, none⟩ v3).setCell ⟨g, i * 8 + 4, none⟩ v4).setCell ⟨g, i * 8 + 5, none⟩ v5).setCell ⟨g, i * 8 + 6, none⟩ v6).setCell ⟨g, i * 8 + 7, none⟩ v7) :=
  below_low (below_low (below_low (below_low (below_low (below_low (below_low (below_low h _ _ hg) _ _ hg) _ _ hg) _ _ hg) _ _ hg) _ _ hg) _ _ hg) _ _ hg
set_option maxHeartbeats 1000000 in
set_option maxRecDepth 100000 in
theorem kload_no1 (S : Nat → Prop) (kind : Int) (gens : List Int) (v x y : Value) (w : World) (hv : Lst S w v (ints gens)) (h : ¬ (1 ≤ kind ∧ kind ≤ 3 ∧ 1 ≤ gens.length ∧ gens.length ≤ 4096)) :
    Calls Tryz.prog 35 #[.int .i64 kind, v, x, y] w fun e w' => e = .returned (.tuple #[.pointer none, .iface 94 (.int .i64 1)]) ∧ w = w' := by
  obtain ⟨p, cp, rfl, hm, hg⟩ := hv
  have e1 := ints_len gens
  rw [e1] at hm ⊢
  have HN := Lib.hid (fun w => knew_no kind gens.length w (by omega))
  clear h hg e1
  go_enter Tryz.func35, Tryz.ntmps35
  go_wp2_with fail
  refine (HN.out _).mono ?_
  rintro e w1 ⟨rfl, rfl⟩
  go_wp2_with fail
  go_ret2
  exact ⟨rfl, rfl⟩

set_option maxHeartbeats 2000000 in
set_option maxRecDepth 100000 in
theorem kload_no2 (S : Nat → Prop) (kind : Int) (gens : List Int) (taken : List Bool) (m : Nat) (TT : Nat → Tk) (v x y : Value) (w : World) (hv : Lst S w v (ints gens)) (hx : Lst S w x (bools taken)) (hy : Tasks w y m TT)
    (h1 : 1 ≤ kind) (h3 : kind ≤ 3) (n1 : 1 ≤ gens.length) (n4 : gens.length ≤ 4096) (h : ¬ ((taken.length = gens.length ∧ standB gens taken gens.length) ∧ m = rank taken taken.length)) :
    Calls Tryz.prog 35 #[.int .i64 kind, v, x, y] w fun e w' => e = .returned (.tuple #[.pointer none, .iface 94 (.int .i64 270)]) ∧ Below w.heap.size w w' := by
  have HN := Lib.hid (fun w => knew_ok kind gens.length w h1 h3 n1 n4)
  have HSN := Lib.hid (fun W (hb : Below w.heap.size w W) => stand_no S gens taken v x W (hv.below hb) (hx.below hb))
  have HSY := Lib.hid (fun W (hb : Below w.heap.size w W) => stand_yes S gens taken v x W (hv.below hb) (hx.below hb))
  have HC := Lib.hid (fun W (hb : Below w.heap.size w W) => count_any S taken x W (hx.below hb))
  obtain ⟨p, cp, rfl, hm, hg⟩ := hv
  obtain ⟨q, cq, rfl, hm2, ht⟩ := hx
  obtain ⟨r, cr, rfl, hm3, hy⟩ := hy
  have e1 := ints_len gens
  have e2 := bools_len taken
  rw [e1] at hm HSN HSY ⊢
  rw [e2] at hm2 HSN HSY HC ⊢
  clear hg ht hy e1 e2
  by_cases hs : taken.length = gens.length ∧ standB gens taken gens.length
  · have hne : ¬ (m = rank taken taken.length) := fun k => h ⟨hs, k⟩
    have hb1 : decide (m = rank taken taken.length) = false := decide_eq_false hne
    have HS := Lib.hid hs
    have hrk := rank_le taken taken.length
    clear h hs
    generalize rank taken taken.length = rk at *
    go_enter Tryz.func35, Tryz.ntmps35
    go_wp2_with fail
    refine (HN.out _).mono ?_
    rintro e w1 ⟨ST, vt, rfl, hpt, hb⟩
    clear hpt
    go_wp2_with fail
    refine (HSY.out _ hb HS.out.1 HS.out.2).mono ?_
    rintro e w2 ⟨rfl, rfl⟩
    go_wp2_with fail
    refine (HC.out _ hb).mono ?_
    rintro e w2 ⟨rfl, rfl⟩
    go_wp2_with fail
    go_ret2
    exact ⟨rfl, hb⟩
  · have HS := Lib.hid hs
    clear h hs
    go_enter Tryz.func35, Tryz.ntmps35
    go_wp2_with fail
    refine (HN.out _).mono ?_
    rintro e w1 ⟨ST, vt, rfl, hpt, hb⟩
    clear hpt
    go_wp2_with fail
    refine (HSN.out _ hb HS.out).mono ?_
    rintro e w2 ⟨rfl, rfl⟩
    go_wp2_with fail
    go_ret2
    exact ⟨rfl, hb⟩

theorem own_of_keeps {S : Nat → Prop} {B : Nat} {w w' : World} {A : Tab} {T : Nat → Tk} {b g1 c1 g2 c2 g3 c3 : Nat} (h : PK B w A T b g1 c1 g2 c2 g3 c3) (hk : Keeps S w w') (h0 : ¬ S b) : w'.cell? ⟨b, 0, none⟩ = w.cell? ⟨b, 0, none⟩ ∧ w'.cell? ⟨b, 1, none⟩ = w.cell? ⟨b, 1, none⟩ ∧ w'.cell? ⟨b, 2, none⟩ = w.cell? ⟨b, 2, none⟩ ∧ w'.cell? ⟨b, 3, none⟩ = w.cell? ⟨b, 3, none⟩ :=
  have lb := h.lts.1
  ⟨hk.cell (p := ⟨b, 0, none⟩) lb h0, hk.cell (p := ⟨b, 1, none⟩) lb h0, hk.cell (p := ⟨b, 2, none⟩) lb h0, hk.cell (p := ⟨b, 3, none⟩) lb h0⟩
theorem PK.copyG {B : Nat} {w w' : World} {A : Tab} {T : Nat → Tk} {b g1 c1 g2 c2 g3 c3 : Nat} (h : PK B w A T b g1 c1 g2 c2 g3 c3) (l : List Int) (hl : l.length = A.gens.length) (ho : w'.ownsRow B 3 1 (.slice (some ⟨g1, 0, none⟩) A.gens.length c1) A.gens.length (ints l)) (hk : Keeps (fun x => x = g1) w w') :
    PK B w' { A with gens := l } T b g1 c1 g2 c2 g3 c3 := by
  obtain ⟨e0, e1, e2, e3⟩ := own_of_keeps h hk h.n1
  refine ⟨e0.trans h.f0, e1.trans (by simp only [hl]; exact h.f1), e2.trans h.f2, e3.trans (by simp only [hl]; exact h.f3), ⟨by simp only [hl]; exact ho, own_keeps h.own.t hk (fun g e => by simp [Value.ownBlock] at e; subst e; exact fun e => h.own.n12 e.symm), by simp only [hl]; exact own_keeps h.own.l hk (fun g e => by simp [Value.ownBlock] at e; subst e; exact fun e => h.own.n13 e.symm), h.own.n12, h.own.n13, h.own.n23⟩, h.hb, h.n1, h.n2, h.n3⟩
theorem PK.copyT {B : Nat} {w w' : World} {A : Tab} {T : Nat → Tk} {b g1 c1 g2 c2 g3 c3 : Nat} (h : PK B w A T b g1 c1 g2 c2 g3 c3) (l : List Bool) (hl : l.length = A.taken.length) (ho : w'.ownsRow B 4 1 (.slice (some ⟨g2, 0, none⟩) A.taken.length c2) A.taken.length (bools l)) (hk : Keeps (fun x => x = g2) w w') :
    PK B w' { A with taken := l } T b g1 c1 g2 c2 g3 c3 := by
  obtain ⟨e0, e1, e2, e3⟩ := own_of_keeps h hk h.n2
  refine ⟨e0.trans h.f0, e1.trans h.f1, e2.trans (by simp only [hl]; exact h.f2), e3.trans h.f3, ⟨own_keeps h.own.g hk (fun g e => by simp [Value.ownBlock] at e; subst e; exact h.own.n12), by simp only [hl]; exact ho, own_keeps h.own.l hk (fun g e => by simp [Value.ownBlock] at e; subst e; exact fun e => h.own.n23 e.symm), h.own.n12, h.own.n13, h.own.n23⟩, h.hb, h.n1, h.n2, h.n3⟩

/-- The tasks while they are laid. -/
def fillT (taken : List Bool) (TT : Nat → Tk) (k : Nat) : Nat → Tk := fun i => if i < k ∧ taken.getD i false = true then TT (rank taken i) else tk0
theorem fillT_0 (taken : List Bool) (TT : Nat → Tk) : fillT taken TT 0 = fun _ => tk0 := by
  funext i; unfold fillT; rw [if_neg (by omega)]
theorem fillT_no {taken : List Bool} {TT : Nat → Tk} {k : Nat} (h : taken.getD k false = false) : fillT taken TT (k + 1) = fillT taken TT k := by
  funext i
  unfold fillT
  by_cases e : i = k
  · subst e
    rw [if_neg (fun c => by rw [h] at c; cases c.2), if_neg (fun c => by omega)]
  · have : (i < k + 1) = (i < k) := propext ⟨fun h => by omega, fun h => by omega⟩
    simp only [this]
theorem fillT_yes {taken : List Bool} {TT : Nat → Tk} {k : Nat} (h : taken.getD k false = true) : fillT taken TT (k + 1) = upd (fillT taken TT k) k (TT (rank taken k)) := by
  funext i
  unfold upd
  by_cases e : i = k
  · subst e
    rw [if_pos rfl]
    unfold fillT
    rw [if_pos ⟨by omega, h⟩]
  · rw [if_neg e]
    unfold fillT
    have : (i < k + 1) = (i < k) := propext ⟨fun h => by omega, fun h => by omega⟩
    simp only [this]
abbrev loadTo (kind : Int) (gens : List Int) (taken : List Bool) (L : List Int) : Tab := ⟨kind, gens, taken, L⟩

set_option maxHeartbeats 4000000 in
set_option maxRecDepth 100000 in
theorem kload_ok (S : Nat → Prop) (kind : Int) (gens : List Int) (taken : List Bool) (m : Nat) (TT : Nat → Tk) (L : List Int) (v x y : Value) (w : World) (hv : Lst S w v (ints gens)) (hx : Lst S w x (bools taken)) (hy : Tasks w y m TT)
    (h1 : 1 ≤ kind) (h3 : kind ≤ 3) (n1 : 1 ≤ gens.length) (n4 : gens.length ≤ 4096) (hlt : taken.length = gens.length) (ho : standB gens taken gens.length) (hr : m = rank taken taken.length) :
    Calls Tryz.prog 35 #[.int .i64 kind, v, x, y] w fun e w' => ∃ S v, e = .returned (.tuple #[v, .nilIface]) ∧ PKTab S w.heap.size w' (loadTo kind gens taken L) (fillT taken TT gens.length) v ∧ Below w.heap.size w w' := by
  have HN := Lib.hid (fun w => knew_ok kind gens.length w h1 h3 n1 n4)
  have HSY := Lib.hid (fun W (hb : Below w.heap.size w W) => stand_yes S gens taken v x W (hv.below hb) (hx.below hb) hlt ho)
  have HC := Lib.hid (fun W (hb : Below w.heap.size w W) => count_any S taken x W (hx.below hb))
  obtain ⟨p, cp, rfl, hm, hg⟩ := hv
  obtain ⟨q, cq, rfl, hm2, ht⟩ := hx
  have HYJ := Lib.hid hy
  obtain ⟨r, cr, rfl, hm3, hy⟩ := hy
  have e1 := ints_len gens
  have e2 := bools_len taken
  rw [e1] at hm HSY ⊢
  rw [e2] at hm2 HSY HC ⊢
  obtain ⟨b1, o1, rfl, _, hd1⟩ := hg 0 _ (ints_at (by omega))
  obtain ⟨b2, o2, rfl, _, hd2⟩ := ht 0 _ (bools_at (by omega))
  have k1 := cell_lt hd1
  have k2 := cell_lt hd2
  simp only at k1 k2
  have HG := Lib.hid (show ∀ j u, (ints gens)[j]? = some u → w.cell? ⟨b1, o1 + j, none⟩ = some u from fun j u hu => by
    obtain ⟨b, off, e, _, hc⟩ := hg j u hu
    injection e with e
    injection e with e1 e2
    subst e1 e2; exact hc)
  have HT := Lib.hid (show ∀ j u, (bools taken)[j]? = some u → w.cell? ⟨b2, o2 + j, none⟩ = some u from fun j u hu => by
    obtain ⟨b, off, e, _, hc⟩ := ht j u hu
    injection e with e
    injection e with e1 e2
    subst e1 e2; exact hc)
  have HY := Lib.hid hy
  have HR := Lib.hid hr
  have E1 := Lib.hid e1
  have E2 := Lib.hid e2
  have HLT := Lib.hid hlt
  rw [← hr] at HC
  rw [hlt] at HSY HC ⊢
  clear hg ht hy hr ho e1 e2 hlt hd1 hd2 hm2
  go_enter Tryz.func35, Tryz.ntmps35
  go_wp2_with fail
  refine (HN.out _).mono ?_
  rintro e w1 ⟨ST, vt, rfl, ⟨b, g1, c1, g2, c2, g3, c3, rfl, hpt, hST⟩, hb⟩
  clear hST
  have f1 := hpt.f1
  have f2 := hpt.f2
  rw [show (Tab.new kind gens.length).gens.length = gens.length by simp [Tab.new]] at f1
  rw [show (Tab.new kind gens.length).taken.length = gens.length by simp [Tab.new]] at f2
  have hog := hpt.own.g
  rw [show (Tab.new kind gens.length).gens.length = gens.length by simp [Tab.new]] at hog
  have HOG := Lib.hid hog
  have HPT := Lib.hid hpt
  clear hpt hog
  go_wp2_with fail
  refine (HSY.out _ hb).mono ?_
  rintro e w2 ⟨rfl, rfl⟩
  go_wp2_with fail
  refine (HC.out _ hb).mono ?_
  rintro e w2 ⟨rfl, rfl⟩
  go_wp2_with (with_reducible refine wpList_copy_row rfl (.tmp 39) (.tmp 40) 25 25 rfl 3 Tryz.underlying25 Tryz.size3 w.heap.size g1 gens.length c1 _ HOG.out ⟨b1, o1, none⟩ cp rfl rfl (ints gens) E1.out ?a1 ints_one ?_)
  case a1 =>
    intro j u hu
    rw [addr_plus]
    exact (hb.cell (p := ⟨b1, o1 + j, none⟩) k1).trans (HG.out j u hu)
  intro w2 ho2 hk2
  have hl1 := (HPT.out.lts.2.1).1
  have hl2 := (HPT.out.lts.2.2.1).1
  have hb2 : Below w.heap.size w w2 := below_keeps hb hk2 (fun x e => by omega)
  have hpt2 := HPT.out.copyG gens (by simp [Tab.new]) (by rw [show (Tab.new kind gens.length).gens.length = gens.length by simp [Tab.new]]; exact ho2) hk2
  have HPT2 := Lib.hid hpt2
  have g2' := hpt2.f2
  simp only at g2'
  rw [show (Tab.new kind gens.length).taken.length = gens.length by simp [Tab.new]] at g2'
  have hot := hpt2.own.t
  simp only at hot
  rw [show (Tab.new kind gens.length).taken.length = gens.length by simp [Tab.new]] at hot
  have HOT := Lib.hid hot
  clear ho2 hk2 hpt2 hot f1 f2
  have E2' := Lib.hid (E2.out.trans HLT.out)
  go_wp2_with (with_reducible refine wpList_copy_row rfl (.tmp 45) (.tmp 46) 26 26 rfl 4 Tryz.underlying26 Tryz.size4 w.heap.size g2 gens.length c2 _ HOT.out ⟨b2, o2, none⟩ cq rfl rfl (bools taken) E2'.out ?a2 bools_one ?_)
  case a2 =>
    intro j u hu
    rw [addr_plus]
    exact (hb2.cell (p := ⟨b2, o2 + j, none⟩) k2).trans (HT.out j u hu)
  intro w3 ho3 hk3
  have hb3 : Below w.heap.size w w3 := below_keeps hb2 hk3 (fun x e => by omega)
  have hpt3 := HPT2.out.copyT taken (by simp [Tab.new, HLT.out]) (by simp only; rw [show (Tab.new kind gens.length).taken.length = gens.length by simp [Tab.new]]; exact ho3) hk3
  have HPT3 := Lib.hid (show PK w.heap.size w3 (loadTo kind gens taken L) (fillT taken TT 0) b g1 c1 g2 c2 g3 c3 by rw [fillT_0]; exact ⟨hpt3.f0, hpt3.f1, hpt3.f2, by have := hpt3.f3; simpa using this, ⟨hpt3.own.g, hpt3.own.t, by have := hpt3.own.l; simpa using this, hpt3.own.n12, hpt3.own.n13, hpt3.own.n23⟩, hpt3.hb, hpt3.n1, hpt3.n2, hpt3.n3⟩)
  have f3 := HPT3.out.f3
  clear ho3 hk3 hpt3 g2' hb hb2
  go_wp2_with fail
  go_loopw [12, 13, 53] (fun gv _ i wr => ∃ k : Nat, k ≤ gens.length ∧ i = .int .i64 k ∧ gv = .int .i64 (rank taken k : Nat) ∧ Hid (PK w.heap.size wr (loadTo kind gens taken L) (fillT taken TT k) b g1 c1 g2 c2 g3 c3) ∧ Below w.heap.size w wr) (fun _ _ i _ => gens.length - (intOf i).toNat)
  case atStart => exact ⟨0, Nat.zero_le _, rfl, rfl, HPT3, hb3⟩
  case round =>
    obtain ⟨k, hk, rfl, rfl, HK, hbk⟩ := hrel
    by_cases hlt : k < gens.length
    · have q : wr.cell? ⟨b2, o2 + k, none⟩ = some (.bool (taken.getD k false)) := (hbk.cell (p := ⟨b2, o2 + k, none⟩) k2).trans (HT.out k _ (bools_at (by have := HLT.out; omega)))
      have z0 : (0 : Int) ≤ (k : Int) := by omega
      have z1 : (k : Int) < (gens.length : Int) := by omega
      have hrk := rank_le taken k
      cases htk : taken.getD k false with
      | true =>
        rw [htk] at q
        have hs := rank_succ taken k
        rw [if_pos htk] at hs
        have hmono := rank_mono taken (i := k + 1) (j := taken.length) (by have := HLT.out; omega)
        have hrl : rank taken k < m := by have := HR.out; omega
        obtain ⟨b3, o3, rfl, d0, d1, d2, d3, d4, d5, d6, d7, hJ⟩ := HY.out (rank taken k) hrl
        obtain ⟨s1, cp1, hs1, _⟩ := hJ
        rw [hs1] at d1
        have hb3l : b3 < w.heap.size := cell_lt d0
        have kl := fun o => hbk.cell (p := ⟨b3, o, none⟩) hb3l
        have x0 := (kl _).trans d0
        have x1 := (kl _).trans d1
        have x2 := (kl _).trans d2
        have x3 := (kl _).trans d3
        have x4 := (kl _).trans d4
        have x5 := (kl _).trans d5
        have x6 := (kl _).trans d6
        have x7 := (kl _).trans d7
        have f3' := HK.out.f3
        obtain ⟨q0, q1, q2, q3, q4, q5, q6, q7, q8⟩ := HK.out.cells hlt
        have z2 : (0 : Int) ≤ ((rank taken k : Nat) : Int) := by omega
        have z3 : ((rank taken k : Nat) : Int) < (m : Int) := by omega
        have HF := Lib.hid (fillT_yes (TT := TT) htk)
        have HSS := Lib.hid hs
        obtain ⟨t, hti⟩ : ∃ t, t = TT (rank taken k) := ⟨_, rfl⟩
        rw [← hti] at x0 x1 x2 x3 x4 x5 x6 x7 hs1
        have HTI := Lib.hid hti
        clear hs htk hmono f3 hti d0 d1 d2 d3 d4 d5 d6 d7 kl
        obtain ⟨tp, ts, tn, tf, ⟨kg, ko, kn, kd, kc, kt⟩⟩ := t
        dsimp only at x0 x1 x2 x3 x4 x5 x6 x7 hs1
        subst hs1
        generalize (fillT taken TT k k).p = y0 at *
        generalize (fillT taken TT k k).s = y1 at *
        generalize (fillT taken TT k k).k.g = y2 at *
        generalize (fillT taken TT k k).k.o = y3 at *
        generalize (fillT taken TT k k).k.n = y4 at *
        generalize (fillT taken TT k k).k.d = y5 at *
        generalize (fillT taken TT k k).k.c = y6 at *
        generalize (fillT taken TT k k).k.t = y7 at *
        generalize hrn : rank taken k = rn at *
        have HRN := Lib.hid hrn
        clear hrn
        go_upto_region 13 with fail
        go_cut [] (fun wx => Hid (PK w.heap.size wx (loadTo kind gens taken L) (fillT taken TT (k + 1)) b g1 c1 g2 c2 g3 c3) ∧ Below w.heap.size w wx)
        case first =>
          go_still_tail 10, (by kernel_rfl)
          change wpList _ _ _ _ _ wr.drew
          go_wp2_with fail
          go_meet
          refine ⟨Lib.hid ?_, ?_⟩
          · rw [HF.out, ← HTI.out]
            exact (HK.out.task k ⟨tp, .slice s1 tn cp1, tn, tf, ⟨kg, ko, kn, kd, kc, kt⟩⟩ L).drew
          · have hg3 := (HK.out.lts.2.2.2).1
            exact below_drew (below_set8 hbk hg3 _ _ _ _ _ _ _ _ _)
        case rest =>
          obtain ⟨K1, K2⟩ := hcut
          clear q q0 q1 q2 q3 q4 q5 q6 q7 q8 f3' hbk x0 x1 x2 x3 x4 x5 x6 x7
          go_wp2_with fail
          go_roundw
          case rel => exact ⟨k + 1, by omega, by go_num, by rw [HSS.out]; go_num, K1, K2⟩
          case measure => simp [intOf]; omega
      | false =>
        rw [htk] at q
        have hs := rank_succ taken k
        rw [if_neg (by rw [htk]; simp)] at hs
        have HF := Lib.hid (fillT_no (TT := TT) htk)
        have HSS := Lib.hid hs
        clear htk hs f3
        go_wp2_with fail
        go_roundw
        case rel => exact ⟨k + 1, by omega, by go_num, by rw [HSS.out]; rfl, Lib.hid (by rw [HF.out]; exact HK.out), hbk⟩
        case measure => simp [intOf]; omega
    · have hk' : k = gens.length := by omega
      have HE := Lib.hid hk'
      clear hk'
      go_wp2_with fail
      go_ret2
      exact ⟨_, _, rfl, ⟨b, g1, c1, g2, c2, g3, c3, rfl, by rw [← HE.out]; exact HK.out, rfl⟩, hbk⟩
end Go.Proofs.YthbkinopgialmaaGreatDoor
/- The program's leaf as it lies in memory: one cell, a table of tasks, the tasks' jobs; what stays where others turn; nothing of the program is walked; no condition. -/
namespace Go.Proofs.YthbkinopgialmaaGreatDoor
open Go.RowKit Tsk

/-- A slice of jobs that lies in none of the blocks X. -/
def JobsX (X : Nat → Prop) (w : World) (v : Value) (n : Nat) (f : Nat → Jb) : Prop := Jobs w v n f ∧ ∀ a m c, v = .slice (some a) m c → 0 < n → ¬ X a.block
theorem JobsX.keeps {X R : Nat → Prop} {w w' : World} {v : Value} {n : Nat} {f : Nat → Jb} (h : JobsX X w v n f) (hk : Keeps R w w') (hR : ∀ x, R x → X x) : JobsX X w' v n f := by
  refine ⟨?_, h.2⟩
  obtain ⟨⟨p, cap, e, hm, hc⟩, hx⟩ := h
  refine ⟨p, cap, e, hm, fun j hj => ?_⟩
  obtain ⟨b, off, e2, c0, c1, c2, c3⟩ := hc j hj
  have hl := cell_lt c0
  have hn : ¬ R b := fun r => hx ⟨b, off, none⟩ n cap (by rw [e, e2]) (by omega) (hR b r)
  have k := fun (o : Nat) => hk.cell (p := ⟨b, o, none⟩) hl hn
  exact ⟨b, off, e2, (k _).trans c0, (k _).trans c1, (k _).trans c2, (k _).trans c3⟩
theorem JobsX.below {X : Nat → Prop} {w w' : World} {v : Value} {n : Nat} {f : Nat → Jb} (h : JobsX X w v n f) (hb : Below w.heap.size w w') : JobsX X w' v n f := ⟨h.1.below hb, h.2⟩
theorem JobsX.mono {X Y : Nat → Prop} {w : World} {v : Value} {n : Nat} {f : Nat → Jb} (h : JobsX X w v n f) (hy : ∀ x, x < w.heap.size → Y x → X x) : JobsX Y w v n f :=
  ⟨h.1, fun a m c e hn k => h.2 a m c e hn (hy _ (h.1.lt a m c e (by
    obtain ⟨p, cap, e1, _⟩ := h.1
    rw [e] at e1
    cases e1
    exact hn)) k)⟩
theorem JobsX.own {X : Nat → Prop} {B : Nat} {w : World} {v : Value} {n : Nat} {f : Nat → Jb} (h : JobsO B w v n f) (hn : n ≤ 9223372036854775807) (hX : ∀ x, X x → x < B) : JobsX X w v n f := by
  refine ⟨own_jobs h hn, fun a m c e h0 k => ?_⟩
  obtain ⟨g, cap, e2, _, hB, _⟩ := own_block2 h h0
  rw [e] at e2
  cases e2
  have := hX _ k
  simp only at this
  omega
theorem JobsX.nil (X : Nat → Prop) (w : World) (f : Nat → Jb) : JobsX X w (.slice none 0 0) 0 f := ⟨jobs_none _ _ _ _ _ rfl, fun _ _ _ _ h => absurd h (Nat.lt_irrefl _)⟩
theorem JobsX.congr {X : Nat → Prop} {w : World} {v : Value} {n : Nat} {f g : Nat → Jb} (h : JobsX X w v n f) (e : ∀ j, j < n → f j = g j) : JobsX X w v n g := ⟨h.1.congr e, h.2⟩

/-- The program's leaf in a world: its blocks S, its jobs in none of X. -/
def Lf (S X : Nat → Prop) (B : Nat) (w : World) (A : Tab) (T : Nat → Tk) (v : Value) : Prop :=
  ∃ (sl : Nat → Value) (bl : Nat) (ST : Nat → Prop) (tv : Value), v = .pointer (some ⟨bl, 0, none⟩) ∧ w.cell? ⟨bl, 0, none⟩ = some tv ∧ PKTab ST B w A (tm T sl) tv ∧ (B ≤ bl ∧ ¬ ST bl) ∧ (S = fun x => x = bl ∨ ST x) ∧ ∀ i, JobsX X w (sl i) (T i).n (T i).f
theorem Lf.lt {S X : Nat → Prop} {B : Nat} {w : World} {A : Tab} {T : Nat → Tk} {v : Value} (h : Lf S X B w A T v) : ∀ x, S x → B ≤ x ∧ x < w.heap.size := by
  obtain ⟨sl, bl, ST, tv, rfl, hc, ht, ⟨hb, _⟩, rfl, _⟩ := h
  rintro x (rfl | hx)
  · exact ⟨hb, cell_lt hc⟩
  · exact ht.lt x hx
theorem Lf.keeps {S X R : Nat → Prop} {B : Nat} {w w' : World} {A : Tab} {T : Nat → Tk} {v : Value} (h : Lf S X B w A T v) (hk : Keeps R w w') (hd : ∀ x, S x → ¬ R x) (hR : ∀ x, R x → X x) : Lf S X B w' A T v := by
  obtain ⟨sl, bl, ST, tv, rfl, hc, ht, hb, rfl, hj⟩ := h
  exact ⟨sl, bl, ST, tv, rfl, (hk.cell (p := ⟨bl, 0, none⟩) (cell_lt hc) (hd bl (.inl rfl))).trans hc, ht.keeps hk (fun x hx => hd x (.inr hx)), hb, rfl, fun i => (hj i).keeps hk hR⟩
theorem Lf.below {S X : Nat → Prop} {B : Nat} {w w' : World} {A : Tab} {T : Nat → Tk} {v : Value} (h : Lf S X B w A T v) (hb : Below w.heap.size w w') : Lf S X B w' A T v :=
  h.keeps (R := fun _ => False) (Keeps.of_below hb) (fun _ _ k => k) (fun _ k => k.elim)
theorem Lf.mono {S X Y : Nat → Prop} {B : Nat} {w : World} {A : Tab} {T : Nat → Tk} {v : Value} (h : Lf S X B w A T v) (hy : ∀ x, x < w.heap.size → Y x → X x) : Lf S Y B w A T v := by
  obtain ⟨sl, bl, ST, tv, rfl, hc, ht, hb, rfl, hj⟩ := h
  exact ⟨sl, bl, ST, tv, rfl, hc, ht, hb, rfl, fun i => (hj i).mono hy⟩
theorem tm_upd (T : Nat → Tk) (sl : Nat → Value) (i : Nat) (p : Int) (s : Value) (n : Nat) (f : Nat → Jb) (k : Ac) (s0 : Value) : tm (upd T i ⟨p, s0, n, f, k⟩) (upd sl i s) = upd (tm T sl) i ⟨p, s, n, f, k⟩ := by
  funext j
  unfold tm upd
  by_cases e : j = i
  · simp [e]
  · simp [e]
theorem isSl_tm {X : Nat → Prop} {w : World} {T : Nat → Tk} {sl : Nat → Value} (h : ∀ i, JobsX X w (sl i) (T i).n (T i).f) : IsSl (tm T sl) := fun i => by
  obtain ⟨p, cap, e, _⟩ := (h i).1
  exact ⟨p, cap, e⟩
theorem fs_tm (t : Nat → Bool) (T : Nat → Tk) (sl : Nat → Value) : ∀ m, fsS t (tm T sl) m = fsS t T m
  | 0 => rfl
  | m + 1 => by
    have h := fs_tm t T sl m
    show (if t m = true ∧ 0 < (T m).n ∧ (fsS t (tm T sl) m < 0 ∨ (T m).p < (T (fsS t (tm T sl) m).toNat).p) then ((m : Nat) : Int) else fsS t (tm T sl) m) = _
    rw [h]
    rfl
/-- The leaf behind a step of its table: another task at a slot. -/
theorem Lf.act {S X : Nat → Prop} {B : Nat} {w0 w w' : World} {A' : Tab} {T : Nat → Tk} {v : Value} {sl : Nat → Value} {bl : Nat} {ST : Nat → Prop} {tv : Value} (hv : v = .pointer (some ⟨bl, 0, none⟩)) (hc : w0.cell? ⟨bl, 0, none⟩ = some tv) (hb : B ≤ bl ∧ ¬ ST bl) (hS : S = fun x => x = bl ∨ ST x) (hj : ∀ i, JobsX X w0 (sl i) (T i).n (T i).f) (hX : ∀ x, S x → X x)
    (h0 : Below w0.heap.size w0 w) {i : Nat} {p : Int} {s : Value} {n : Nat} {f : Nat → Jb} {k : Ac} (s0 : Value) (ht : PKTab ST B w' A' (upd (tm T sl) i ⟨p, s, n, f, k⟩) tv) (hk : Keeps ST w w') (hn : JobsX X w s n f) :
    Lf S X B w' A' (upd T i ⟨p, s0, n, f, k⟩) v ∧ Keeps S w0 w' := by
  subst hS
  have hk2 : Keeps ST w0 w' := (Keeps.of_below h0).trans hk
  refine ⟨⟨upd sl i s, bl, ST, tv, hv, (hk2.cell (p := ⟨bl, 0, none⟩) (cell_lt hc) hb.2).trans hc, by rw [tm_upd]; exact ht, hb, rfl, fun j => ?_⟩, hk2.mono fun _ h => .inr h⟩
  by_cases e : j = i
  · subst e
    rw [upd_same, upd_same]
    exact hn.keeps hk (fun x hx => hX x (.inr hx))
  · rw [upd_ne _ e, upd_ne _ e]
    exact (hj j).keeps hk2 (fun x hx => hX x (.inr hx))
end Go.Proofs.YthbkinopgialmaaGreatDoor
/- The program's leaf: Add, Drop; no condition but those that each row names. -/
namespace Go.Proofs.YthbkinopgialmaaGreatDoor
open Go.RowKit Tsk

/-- What is answered of a leaf that has turned. -/
def LfPost (S X : Nat → Prop) (B : Nat) (w : World) (A' : Tab) (T' : Nat → Tk) (v r : Value) (e : Ending) (w' : World) : Prop := e = .returned r ∧ Lf S X B w' A' T' v ∧ Keeps S w w'
set_option maxHeartbeats 2000000 in
set_option maxRecDepth 100000 in
theorem ladd_no (w : World) (v : Value) (p : Int) (hp : ¬ (0 ≤ p ∧ p ≤ 31)) :
    Calls Tryz.prog 17 #[v, .int .i64 p] w fun e w' => e = .returned (.tuple #[.int .i64 0, errV 2]) ∧ Below w.heap.size w w' := by
  have HN := Lib.hid (fun W => pnew_no p W hp)
  clear hp
  go_enter Tryz.func17, Tryz.ntmps17
  go_wp2_with fail
  refine (HN.out _).mono ?_
  rintro e w1 ⟨rfl, hb1⟩
  rw [errV_ne (by decide)]
  have HB1 := Lib.hid hb1
  clear hb1
  go_wp2_with fail
  go_ret2
  exact ⟨rfl, HB1.out.alloc HB1.out.size _⟩
set_option maxHeartbeats 2000000 in
set_option maxRecDepth 100000 in
theorem ladd_none (S X : Nat → Prop) (B : Nat) (A : Tab) (T : Nat → Tk) (hg : LGood A T) (w : World) (v : Value) (h : Lf S X B w A T v) (p : Int) (hp : 0 ≤ p ∧ p ≤ 31) (hf : A.free = none) :
    Calls Tryz.prog 17 #[v, .int .i64 p] w fun e w' => e = .returned (.tuple #[.int .i64 0, errV 30]) ∧ Below w.heap.size w w' := by
  have HN := Lib.hid (fun W => pnew_ok p W hp)
  obtain ⟨sl, bl, ST, tv, rfl, hc, ht, hb, rfl, hj⟩ := h
  have HC := Lib.hid hc
  have HA := Lib.hid (fun W (hb : Below w.heap.size w W) => kadd_none ST B A hg.tab (tm T sl) W tv (ht.below hb) p (.slice none 0 0) kZ hf)
  obtain ⟨b, g1, c1, g2, c2, g3, c3, rfl, _⟩ := ht
  clear hj hg hf hc hp hb
  go_enter Tryz.func17, Tryz.ntmps17
  go_wp2_with fail
  refine (HN.out _).mono ?_
  rintro e w1 ⟨rfl, hb1⟩
  obtain ⟨W1, hW1⟩ : ∃ W1, W1 = w1.alloc (.cells #[.int .i64 p, .slice none 0 0, .int .i64 0, .int .i64 0, .int .i64 0, .int .i64 0, .int .i64 0, .int .i64 0] KT) := ⟨_, rfl⟩
  have HB1 := Lib.hid (show Below w.heap.size w W1 from by rw [hW1]; exact hb1.alloc hb1.size _)
  have HT1 := Lib.hid (show HasT W1 w1.heap.size p (.slice none 0 0) kZ from by rw [hW1]; exact hasT_new w1 p _ kZ)
  have HW := Lib.hid hW1
  clear hW1 hb1
  go_upto_region 4 with fail
  rw [← HW.out]
  obtain ⟨x0, x1, x2, x3, x4, x5, x6, x7⟩ := HT1.out.cells
  have hc1 := (HB1.out.cell (p := ⟨bl, 0, none⟩) (cell_lt HC.out)).trans HC.out
  go_region_law (go_simp; go_at_call 47; refine (HA.out _ HB1.out.drew).mono ?_; rintro e w2 ⟨rfl, hb2⟩; rw [errV_ne (by decide)])
  all_goals
    have HB2 := Lib.hid (bnext HB1.out.drew hb2)
    clear hb2
    go_wp2_with fail
    go_ret2
    exact ⟨rfl, HB2.out⟩
set_option maxHeartbeats 2000000 in
set_option maxRecDepth 100000 in
theorem ladd_some (S X : Nat → Prop) (B : Nat) (A : Tab) (T : Nat → Tk) (hg : LGood A T) (w : World) (v : Value) (h : Lf S X B w A T v) (hX : ∀ x, S x → X x) (p : Int) (hp : 0 ≤ p ∧ p ≤ 31) (i : Nat) (hf : A.free = some i) :
    Calls Tryz.prog 17 #[v, .int .i64 p] w (LfPost S X B w (A.addAt i 0) (upd T i (tkN p)) v (.tuple #[.int .i64 (A.hd i), .nilIface])) := by
  have HN := Lib.hid (fun W => pnew_ok p W hp)
  obtain ⟨sl, bl, ST, tv, rfl, hc, ht, hb, hS, hj⟩ := h
  have HC := Lib.hid hc
  have HA := Lib.hid (fun W (hb : Below w.heap.size w W) => kadd_some ST B A hg.tab (tm T sl) W tv (ht.below hb) p none 0 0 (fun _ => ⟨0, 0, 0, 0⟩) kZ 0 i hf)
  have HACT := Lib.hid (fun W W' (h0 : Below w.heap.size w W) (ht : PKTab ST B W' (A.addAt i 0) (upd (tm T sl) i ⟨p, .slice none 0 0, 0, fun _ => ⟨0, 0, 0, 0⟩, kZ⟩) tv) (hk : Keeps ST W W') => Lf.act (v := .pointer (some ⟨bl, 0, none⟩)) (T := T) rfl hc hb hS hj hX h0 (.slice none 0 0) ht hk (JobsX.nil X W _))
  obtain ⟨b, g1, c1, g2, c2, g3, c3, rfl, _⟩ := ht
  clear hj hg hf hc hp hb hS hX
  go_enter Tryz.func17, Tryz.ntmps17
  go_wp2_with fail
  refine (HN.out _).mono ?_
  rintro e w1 ⟨rfl, hb1⟩
  obtain ⟨W1, hW1⟩ : ∃ W1, W1 = w1.alloc (.cells #[.int .i64 p, .slice none 0 0, .int .i64 0, .int .i64 0, .int .i64 0, .int .i64 0, .int .i64 0, .int .i64 0] KT) := ⟨_, rfl⟩
  have HB1 := Lib.hid (show Below w.heap.size w W1 from by rw [hW1]; exact hb1.alloc hb1.size _)
  have HT1 := Lib.hid (show HasT W1 w1.heap.size p (.slice none 0 0) kZ from by rw [hW1]; exact hasT_new w1 p _ kZ)
  have HW := Lib.hid hW1
  clear hW1 hb1
  go_upto_region 4 with fail
  rw [← HW.out]
  obtain ⟨x0, x1, x2, x3, x4, x5, x6, x7⟩ := HT1.out.cells
  have hc1 := (HB1.out.cell (p := ⟨bl, 0, none⟩) (cell_lt HC.out)).trans HC.out
  go_region_law (go_simp; go_at_call 47; refine (HA.out _ HB1.out.drew).mono ?_; rintro e w2 ⟨rfl, ht2, hk2⟩)
  all_goals
    have HR := Lib.hid (HACT.out _ _ HB1.out.drew ht2 hk2)
    clear ht2 hk2
    go_wp2_with fail
    go_ret2
    exact ⟨rfl, HR.out.1, HR.out.2⟩
theorem ladd (S X : Nat → Prop) (B : Nat) (A : Tab) (T : Nat → Tk) (hg : LGood A T) (w : World) (v : Value) (h : Lf S X B w A T v) (hX : ∀ x, S x → X x) (p : Int) :
    Calls Tryz.prog 17 #[v, .int .i64 p] w (LfPost S X B w (addA A p) (addT A T p) v (.tuple #[.int .i64 (addH A p), errV (addN A p)])) := by
  rcases add_ways A T p with ⟨hp, e1, e2, e3, e4⟩ | ⟨hp, hf, e1, e2, e3, e4⟩ | ⟨i, hp, hf, e1, e2, e3, e4⟩
  · rw [e1, e2, e3, e4]
    exact (ladd_no w v p hp).mono fun e w' ⟨he, hb⟩ => ⟨he, h.below hb, Keeps.of_below hb⟩
  · rw [e1, e2, e3, e4]
    exact (ladd_none S X B A T hg w v h p hp hf).mono fun e w' ⟨he, hb⟩ => ⟨he, h.below hb, Keeps.of_below hb⟩
  · rw [e1, e2, e3, e4]
    exact ladd_some S X B A T hg w v h hX p hp i hf
/-- An account in a block of its own. -/
def HasA (W : World) (g : Nat) (k : Ac) : Prop := Has W g (.cells #[.int .i64 k.g, .int .i64 k.o, .int .i64 k.n, .int .i64 k.d, .int .i64 k.c, .int .i64 k.t] 59 (0, 0))
theorem HasA.below {W W' : World} {g : Nat} {k : Ac} (h : HasA W g k) (hb : Below W.heap.size W W') : HasA W' g k := (hb.block g (has_lt h)).trans h
theorem HasA.cells {W : World} {g : Nat} {k : Ac} (h : HasA W g k) :
    W.cell? ⟨g, 0, none⟩ = some (.int .i64 k.g) ∧ W.cell? ⟨g, 1, none⟩ = some (.int .i64 k.o) ∧ W.cell? ⟨g, 2, none⟩ = some (.int .i64 k.n) ∧ W.cell? ⟨g, 3, none⟩ = some (.int .i64 k.d) ∧ W.cell? ⟨g, 4, none⟩ = some (.int .i64 k.c) ∧ W.cell? ⟨g, 5, none⟩ = some (.int .i64 k.t) :=
  ⟨(has_cell h 0).trans rfl, (has_cell h 1).trans rfl, (has_cell h 2).trans rfl, (has_cell h 3).trans rfl, (has_cell h 4).trans rfl, (has_cell h 5).trans rfl⟩
theorem hasA_new (w : World) (k : Ac) : HasA (w.alloc (.cells #[.int .i64 k.g, .int .i64 k.o, .int .i64 k.n, .int .i64 k.d, .int .i64 k.c, .int .i64 k.t] 59)) w.heap.size k := has_new _ _ _ rfl
theorem has_keeps {S : Nat → Prop} {W W' : World} {g : Nat} {o : Obj} (h : Has W g o) (hk : Keeps S W W') (hn : ¬ S g) : Has W' g o := (hk.block g (has_lt h) hn).trans h
abbrev kV6 (k : Ac) : Value := .agg #[.int .i64 k.g, .int .i64 k.o, .int .i64 k.n, .int .i64 k.d, .int .i64 k.c, .int .i64 k.t]
theorem Lf.act2 {S X : Nat → Prop} {B : Nat} {w0 w' : World} {A' : Tab} {T : Nat → Tk} {v : Value} {sl : Nat → Value} {bl : Nat} {ST : Nat → Prop} {tv : Value} (hv : v = .pointer (some ⟨bl, 0, none⟩)) (hc : w0.cell? ⟨bl, 0, none⟩ = some tv) (hb : B ≤ bl ∧ ¬ ST bl) (hS : S = fun x => x = bl ∨ ST x) (hj : ∀ i, JobsX X w0 (sl i) (T i).n (T i).f) (hX : ∀ x, S x → X x)
    {i : Nat} {p : Int} {s : Value} {n : Nat} {f : Nat → Jb} {k : Ac} (s0 : Value) (ht : PKTab ST B w' A' (upd (tm T sl) i ⟨p, s, n, f, k⟩) tv) (hk2 : Keeps ST w0 w') (hn : JobsX X w' s n f) :
    Lf S X B w' A' (upd T i ⟨p, s0, n, f, k⟩) v ∧ Keeps S w0 w' := by
  subst hS
  refine ⟨⟨upd sl i s, bl, ST, tv, hv, (hk2.cell (p := ⟨bl, 0, none⟩) (cell_lt hc) hb.2).trans hc, by rw [tm_upd]; exact ht, hb, rfl, fun j => ?_⟩, hk2.mono fun _ h => .inr h⟩
  by_cases e : j = i
  · subst e
    rw [upd_same, upd_same]
    exact hn
  · rw [upd_ne _ e, upd_ne _ e]
    exact (hj j).keeps hk2 (fun x hx => hX x (.inr hx))
theorem below6 {B g : Nat} {w W : World} (h : Below B w W) (hg : B ≤ g) (v0 v1 v2 v3 v4 v5 : Value) : Below B w ((((((W.setCell ⟨g, 0, none⟩ v0).setCell ⟨g, 1, none⟩ v1).setCell ⟨g, 2, none⟩ v2).setCell ⟨g, 3, none⟩ v3).setCell ⟨g, 4, none⟩ v4).setCell ⟨g, 5, none⟩ v5) :=
  below_low (below_low (below_low (below_low (below_low (below_low h _ _ hg) _ _ hg) _ _ hg) _ _ hg) _ _ hg) _ _ hg
theorem keeps6 {S : Nat → Prop} {g : Nat} {w W : World} (h : Keeps S w W) (hg : S g ∨ w.heap.size ≤ g) (v0 v1 v2 v3 v4 v5 : Value) : Keeps S w ((((((W.setCell ⟨g, 0, none⟩ v0).setCell ⟨g, 1, none⟩ v1).setCell ⟨g, 2, none⟩ v2).setCell ⟨g, 3, none⟩ v3).setCell ⟨g, 4, none⟩ v4).setCell ⟨g, 5, none⟩ v5) :=
  (((((h.setCell _ _ hg).setCell _ _ hg).setCell _ _ hg).setCell _ _ hg).setCell _ _ hg).setCell _ _ hg
set_option maxHeartbeats 2000000 in
set_option maxRecDepth 100000 in
theorem ldrop_none (S X : Nat → Prop) (B : Nat) (A : Tab) (T : Nat → Tk) (hg : LGood A T) (w : World) (v : Value) (h : Lf S X B w A T v) (x : Int) (hf : A.find x = none) :
    Calls Tryz.prog 19 #[v, .int .i64 x] w fun e w' => e = .returned (.tuple #[kV6 kZ, errV 20]) ∧ Below w.heap.size w w' := by
  obtain ⟨sl, bl, ST, tv, rfl, hc, ht, hb, rfl, hj⟩ := h
  obtain ⟨WA, hWA⟩ : ∃ WA, WA = w.alloc (.cells #[.int .i64 0, .int .i64 0, .int .i64 0, .int .i64 0, .int .i64 0, .int .i64 0] 59) := ⟨_, rfl⟩
  have HB := Lib.hid (show Below w.heap.size w WA from by rw [hWA]; exact (Below.refl _ _).alloc (Nat.le_refl _) _)
  have HT := Lib.hid (show HasA WA w.heap.size kZ from by rw [hWA]; exact hasA_new w kZ)
  have HW := Lib.hid hWA
  have hcA := (HB.out.cell (p := ⟨bl, 0, none⟩) (cell_lt hc)).trans hc
  have HG := Lib.hid (kget_none ST B A hg.tab (tm T sl) WA tv (ht.below HB.out) x hf)
  obtain ⟨b, g1, c1, g2, c2, g3, c3, rfl, _⟩ := ht
  clear hj hg hWA hf hc
  go_enter Tryz.func19, Tryz.ntmps19
  go_upto_region 1 with fail
  rw [← HW.out]
  go_wp2_with fail
  refine HG.out.mono ?_
  rintro e w1 ⟨rfl, hb1⟩
  rw [errV_ne (by decide)]
  have HB1 := Lib.hid (bnext HB.out hb1)
  have HT1 := HT.out.below hb1
  obtain ⟨x0, x1, x2, x3, x4, x5⟩ := HT1.cells
  have fr := fun j => has_free HT1 j
  have hlt := has_lt HT1
  have HL := Lib.hid (show w.heap.size ≤ w1.heap.size from by omega)
  clear HT1 hb1
  go_wp2_with fail
  refine bodyPost_ret (v := .tuple #[kV6 kZ, .iface 94 (.int .i64 20)]) (by simp [results, Tryz.results19, go_sem, x0, x1, x2, x3, x4, x5, hlt]) rfl ⟨rfl, ?_⟩
  exact (below6 HB1.out (Nat.le_refl _) _ _ _ _ _ _).alloc (by have := HL.out; simpa [World.setCell] using this) _
set_option maxHeartbeats 4000000 in
set_option maxRecDepth 100000 in
theorem ldrop_some (S X : Nat → Prop) (B : Nat) (A : Tab) (T : Nat → Tk) (hg : LGood A T) (w : World) (v : Value) (h : Lf S X B w A T v) (hX : ∀ x, S x → X x) (x : Int) (i : Nat) (hf : A.find x = some i) :
    Calls Tryz.prog 19 #[v, .int .i64 x] w (LfPost S X B w (A.dropAt i) (upd T i tk0) v (.tuple #[kV6 (T i).k, .nilIface])) := by
  obtain ⟨sl, bl, ST, tv, rfl, hc, ht, hb, hS, hj⟩ := h
  have HTL := Lib.hid ht.lt
  obtain ⟨WA, hWA⟩ : ∃ WA, WA = w.alloc (.cells #[.int .i64 0, .int .i64 0, .int .i64 0, .int .i64 0, .int .i64 0, .int .i64 0] 59) := ⟨_, rfl⟩
  have HB := Lib.hid (show Below w.heap.size w WA from by rw [hWA]; exact (Below.refl _ _).alloc (Nat.le_refl _) _)
  have HT := Lib.hid (show HasA WA w.heap.size kZ from by rw [hWA]; exact hasA_new w kZ)
  have HW := Lib.hid hWA
  have HC := Lib.hid hc
  have hcA := (HB.out.cell (p := ⟨bl, 0, none⟩) (cell_lt hc)).trans hc
  have HBL := Lib.hid hb.2
  have HG := Lib.hid (kget_some ST B A hg.tab (tm T sl) WA tv (ht.below HB.out) (isSl_tm (w := w) hj) x i hf)
  dsimp only [tm] at HG
  have HD := Lib.hid (fun W (hb : Below w.heap.size w W) => kdrop_some ST B A hg.tab (tm T sl) W tv (ht.below hb) x i hf)
  have HACT := Lib.hid (fun W' (ht : PKTab ST B W' (A.dropAt i) (upd (tm T sl) i tk0) tv) (hk : Keeps ST w W') => Lf.act2 (v := .pointer (some ⟨bl, 0, none⟩)) (T := T) rfl hc hb hS hj hX (.slice none 0 0) ht hk (JobsX.nil X W' _))
  obtain ⟨⟨q0, cap0, hs, _⟩, _⟩ := hj i
  rw [hs] at HG
  obtain ⟨b, g1, c1, g2, c2, g3, c3, rfl, _⟩ := ht
  obtain ⟨t, hti⟩ : ∃ t, t = T i := ⟨_, rfl⟩
  rw [← hti] at HG ⊢
  clear hj hg hWA hf hc hs hti hS hX hb
  obtain ⟨tp, ts, tn, tf, ⟨kg, ko, kn, kd, kc, kt⟩⟩ := t
  dsimp only at HG ⊢
  go_enter Tryz.func19, Tryz.ntmps19
  go_upto_region 1 with fail
  rw [← HW.out]
  go_wp2_with fail
  refine HG.out.mono ?_
  rintro e w1 ⟨rfl, hb1⟩
  obtain ⟨W1, hW1⟩ : ∃ W1, W1 = w1.alloc (.cells #[.int .i64 tp, .slice q0 tn cap0, .int .i64 kg, .int .i64 ko, .int .i64 kn, .int .i64 kd, .int .i64 kc, .int .i64 kt] KT) := ⟨_, rfl⟩
  have HB1 := Lib.hid (show Below w.heap.size w W1 from by rw [hW1]; have h1 := bnext HB.out hb1; exact h1.alloc h1.size _)
  have HT1 := Lib.hid (show HasT W1 w1.heap.size tp (.slice q0 tn cap0) ⟨kg, ko, kn, kd, kc, kt⟩ from by rw [hW1]; exact hasT_new w1 tp _ ⟨kg, ko, kn, kd, kc, kt⟩)
  have HA1 := Lib.hid (show HasA W1 w.heap.size kZ from by rw [hW1]; exact has_old (HT.out.below hb1) _)
  have HL := Lib.hid (show w.heap.size < w1.heap.size from has_lt (HT.out.below hb1))
  have HW2 := Lib.hid hW1
  clear hW1 hb1
  go_upto_region 4 with fail
  rw [← HW2.out]
  have hc1 := (HB1.out.cell (p := ⟨bl, 0, none⟩) (cell_lt HC.out)).trans HC.out
  obtain ⟨x0, x1, x2, x3, x4, x5, x6, x7⟩ := HT1.out.cells
  obtain ⟨y0, y1, y2, y3, y4, y5⟩ := HA1.out.cells
  have fr := fun j => has_free HA1.out j
  have hl := HL.out
  have k6 : ¬ w.heap.size = w1.heap.size := by omega
  have k7 : ¬ w1.heap.size = w.heap.size := by omega
  have hn1 := Lib.hid (show ¬ ST w1.heap.size from fun k => by have := (HTL.out _ k).2; omega)
  have hn2 := Lib.hid (show ¬ ST w.heap.size from fun k => by have := (HTL.out _ k).2; omega)
  go_region_law (go_simp; go_at_call 53; refine (HD.out _ HB1.out.drew).mono ?_; rintro e w2 ⟨rfl, ht2, hk2⟩; have hh1 := HasT.cells (has_keeps (W := W1.drew) HT1.out hk2 hn1.out); have hh2 := has_keeps (W := W1.drew) HA1.out hk2 hn2.out; obtain ⟨z0, z1, z2, z3, z4, z5, z6, z7⟩ := hh1; obtain ⟨u0, u1, u2, u3, u4, u5⟩ := HasA.cells hh2; have fr2 := fun j => has_free hh2 j)
  all_goals
    have HT2 := Lib.hid ht2
    have HK2 := Lib.hid (Keeps.trans (Keeps.of_below HB1.out.drew) hk2)
    clear ht2 hk2
    go_wp2_with fail
    refine bodyPost_ret (v := .tuple #[kV6 ⟨kg, ko, kn, kd, kc, kt⟩, .nilIface]) (by simp [results, Tryz.results19, go_sem, u0, u1, u2, u3, u4, u5]) rfl ⟨rfl, ?_⟩
    refine HACT.out _ ?_ (keeps6 HK2.out (.inr (Nat.le_refl _)) _ _ _ _ _ _)
    exact HT2.out.keeps (keeps6 (Keeps.refl (fun y => y = w.heap.size) w2) (.inl rfl) _ _ _ _ _ _) (fun y hy e => hn2.out (by rw [← e]; exact hy))
theorem ldrop (S X : Nat → Prop) (B : Nat) (A : Tab) (T : Nat → Tk) (hg : LGood A T) (w : World) (v : Value) (h : Lf S X B w A T v) (hX : ∀ x, S x → X x) (x : Int) :
    Calls Tryz.prog 19 #[v, .int .i64 x] w (LfPost S X B w (dropA A x) (dropT A T x) v (.tuple #[kV6 (dropK A T x), errV (dropN A x)])) := by
  rcases drop_ways A T x with ⟨hf, e1, e2, e3, e4⟩ | ⟨i, hf, e1, e2, e3, e4⟩
  · rw [e1, e2, e3, e4]
    exact (ldrop_none S X B A T hg w v h x hf).mono fun e w' ⟨he, hb⟩ => ⟨he, h.below hb, Keeps.of_below hb⟩
  · rw [e1, e2, e3, e4]
    exact ldrop_some S X B A T hg w v h hX x i hf
end Go.Proofs.YthbkinopgialmaaGreatDoor
/- The program's leaf: twin, mark, New, All, Task; no condition but those that each row names. -/
namespace Go.Proofs.YthbkinopgialmaaGreatDoor
open Go.RowKit Tsk

set_option maxHeartbeats 1000000 in
theorem ltwin (p : Int) (s : Value) (n : Nat) (f : Nat → Jb) (k : Ac) (w : World) (h : Jobs w s n f) (hn : n * 32 ≤ 140737488355328) : Calls Tryz.prog 39 #[tV p s k] w fun e w' => ∃ x, e = .returned x ∧ TaskO w p n f k x w' := by
  have HJ := Lib.hid h
  obtain ⟨q, cap, rfl, _, _⟩ := h
  obtain ⟨kg, ko, kn, kd, kc, kt⟩ := k
  obtain ⟨WA, hWA⟩ : ∃ WA, WA = (w.alloc (.cells #[.int .i64 p, .slice q n cap, .int .i64 kg, .int .i64 ko, .int .i64 kn, .int .i64 kd, .int .i64 kc, .int .i64 kt] KT)).alloc (.cells #[.int .i64 0, .slice none 0 0, .int .i64 0, .int .i64 0, .int .i64 0, .int .i64 0, .int .i64 0, .int .i64 0] KT) := ⟨_, rfl⟩
  have HB := Lib.hid (show Below w.heap.size w WA from by rw [hWA]; exact ((Below.refl _ _).alloc (Nat.le_refl _) _).alloc (by simp) _)
  have HT := Lib.hid (show HasT WA w.heap.size p (.slice q n cap) ⟨kg, ko, kn, kd, kc, kt⟩ ∧ HasT WA (w.heap.size + 1) 0 (.slice none 0 0) ⟨0, 0, 0, 0, 0, 0⟩ ∧ WA.heap.size = w.heap.size + 2 from by
    rw [hWA]
    exact ⟨has_old (has_new w _ _ rfl) _, has_new _ _ _ (by simp), by simp⟩)
  have HW := Lib.hid hWA
  clear hWA
  go_enter Tryz.func39, Tryz.ntmps39
  go_upto_region 1 with fail
  rw [← HW.out]
  have x1 := HT.out.1.cells.2.1
  go_wp2_with (at_builtin; refine wpList_append_jobs rfl _ _ rfl (w.heap.size + 2) (.slice none 0 0) 0 [] rfl (World.ownsRow_nil _ _ _ _) _ n (jbL f n) rfl (src_jobs (HJ.out.below HB.out)) (jbL_one _ _) (by omega) (by have := HT.out.2.2; omega) ?_)
  intro p2 c2 w3 ho3 hg3 ha3
  have hb3 : Below WA.heap.size WA w3 := below_of_grown hg3
  have HO3 := Lib.hid (show JobsO (w.heap.size + 2) w3 (.slice p2 n c2) n f from by
    try rw [Nat.zero_add] at ho3
    exact ho3)
  have HB3 := Lib.hid (bnext HB.out hb3)
  have HT3 := Lib.hid (show HasT w3 w.heap.size p (.slice q n cap) ⟨kg, ko, kn, kd, kc, kt⟩ ∧ HasT w3 (w.heap.size + 1) 0 (.slice none 0 0) ⟨0, 0, 0, 0, 0, 0⟩ from ⟨HT.out.1.below hb3, HT.out.2.1.below hb3⟩)
  clear x1
  obtain ⟨x0, x1, x2, x3, x4, x5, x6, x7⟩ := HT3.out.1.cells
  obtain ⟨y0, y1, y2, y3, y4, y5, y6, y7⟩ := HT3.out.2.cells
  have f0 : ∀ j, w3.frozen? ⟨w.heap.size, j, none⟩ = false := fun j => has_free HT3.out.1 j
  have f1 : ∀ j, w3.frozen? ⟨w.heap.size + 1, j, none⟩ = false := fun j => has_free HT3.out.2 j
  clear ho3 hg3 ha3 hb3
  go_wp2_with fail
  refine bodyPost_ret (v := tV p (.slice p2 n c2) ⟨kg, ko, kn, kd, kc, kt⟩) (by simp [results, Tryz.results39, go_sem, y0, y1, y2, y3, y4, y5, y6, y7]) rfl ⟨_, rfl, p2, c2, rfl, ?_, ?_⟩
  · refine own_base2 (B := w.heap.size + 2) ?_ (by omega)
    repeat (first | (with_reducible exact HO3.out) | refine own_low ?_ _ _ (by simp))
  · repeat (first | (with_reducible exact HB3.out) | refine below_low ?_ _ _ (by simp))
theorem lmark (x : Int) (w : World) : Calls Tryz.prog 58 #[.int .i64 x] w fun e w' => e = .returned (.int .i64 (markS x)) ∧ w = w' := by
  by_cases h1 : x = 1
  · subst h1
    go_enter Tryz.func58, Tryz.ntmps58
    go_wp2
    go_ret
    exact ⟨rfl, rfl⟩
  · by_cases h2 : x = 2
    · subst h2
      go_enter Tryz.func58, Tryz.ntmps58
      go_wp2
      go_ret
      exact ⟨rfl, rfl⟩
    · have e : markS x = 0 := by unfold markS; rw [if_neg h1, if_neg h2]
      rw [e]
      have h3 : (x == 1) = false := by simpa using h1
      have h4 : (x == 2) = false := by simpa using h2
      clear e
      go_enter Tryz.func58, Tryz.ntmps58
      go_wp2
      go_ret
      exact ⟨rfl, rfl⟩
theorem own_low8 {B e z n g : Nat} {w : World} {v : Value} {xs : List Value} (h : w.ownsRow B e z v n xs) (hg : g < B) (v0 v1 v2 v3 v4 v5 v6 v7 : Value) : ((((((((w.setCell ⟨g, 0, none⟩ v0).setCell ⟨g, 1, none⟩ v1).setCell ⟨g, 2, none⟩ v2).setCell ⟨g, 3, none⟩ v3).setCell ⟨g, 4, none⟩ v4).setCell ⟨g, 5, none⟩ v5).setCell ⟨g, 6, none⟩ v6).setCell ⟨g, 7, none⟩ v7).ownsRow B e z v n xs :=
  own_low (own_low (own_low (own_low (own_low (own_low (own_low (own_low h _ _ hg) _ _ hg) _ _ hg) _ _ hg) _ _ hg) _ _ hg) _ _ hg) _ _ hg
/-- A new leaf. -/
def NewLf (w : World) (e : Ending) (w' : World) : Prop := ∃ S v, e = .returned v ∧ (∀ X, Lf S X w.heap.size w' (Tab.new 2 8) (fun _ => tk0) v) ∧ Below w.heap.size w w'
set_option maxHeartbeats 1000000 in
theorem lnew (w : World) : Calls Tryz.prog 5 #[] w (NewLf w) := by
  have HN := Lib.hid (fun w => knew_ok 2 8 w (by omega) (by omega) (by omega) (by omega))
  rw [show ((8 : Nat) : Int) = 8 from rfl] at HN
  go_enter Tryz.func5, Tryz.ntmps5
  go_wp2_with fail
  refine (HN.out _).mono ?_
  rintro e w1 ⟨ST, tv, rfl, hp, hb⟩
  have HP := Lib.hid hp
  have HB := Lib.hid hb
  obtain ⟨b, g1, c1, g2, c2, g3, c3, rfl, _⟩ := hp
  clear hb
  go_wp2_with fail
  go_ret
  have hb := HB.out
  have hb2 : Below w1.heap.size w1 (w1.alloc (.cells #[.pointer (some ⟨b, 0, none⟩)] 63)) := (Below.refl _ _).alloc (Nat.le_refl _) _
  have hl := HP.out.lt
  exact ⟨fun x => x = w1.heap.size ∨ ST x, .pointer (some ⟨w1.heap.size, 0, none⟩), rfl, fun X => ⟨fun _ => .slice none 0 0, w1.heap.size, ST, .pointer (some ⟨b, 0, none⟩), rfl, by simp, HP.out.below hb2, ⟨hb.size, fun k => by have := (hl _ k).2; omega⟩, rfl, fun i => JobsX.nil _ _ _⟩, hb.alloc hb.size _⟩
set_option maxHeartbeats 1000000 in
theorem lall (S X Y : Nat → Prop) (B : Nat) (A : Tab) (T : Nat → Tk) (hg : LGood A T) (w : World) (v : Value) (h : Lf S X B w A T v) (hY : ∀ x, Y x → x < w.heap.size) :
    Calls Tryz.prog 28 #[v] w (AllPost Y w A) := by
  obtain ⟨sl, bl, ST, tv, rfl, hc, ht, hb, rfl, hj⟩ := h
  have HA := Lib.hid (kall Y ST B A hg.tab (tm T sl) w tv ht hY)
  obtain ⟨b, g1, c1, g2, c2, g3, c3, rfl, _⟩ := ht
  clear hj hg hY
  go_enter Tryz.func28, Tryz.ntmps28
  go_wp2_with fail
  refine HA.out.mono ?_
  rintro e w1 ⟨r, rfl, hl, hb1⟩
  have HL := Lib.hid hl
  have HB := Lib.hid hb1
  clear hl hb1
  go_wp2_with fail
  go_ret
  exact ⟨_, rfl, HL.out, HB.out⟩
/-- What Task answers. -/
def TaskPost (X : Nat → Prop) (w : World) (A : Tab) (T : Nat → Tk) (x : Int) (e : Ending) (w' : World) : Prop :=
  (A.find x = none → e = .returned (.tuple #[zT, errV 20]) ∧ Below w.heap.size w w') ∧
  ∀ i, A.find x = some i → ∃ s, e = .returned (.tuple #[tV (T i).p s (T i).k, .nilIface]) ∧ JobsX X w' s (T i).n (T i).f ∧ Below w.heap.size w w'
set_option maxHeartbeats 2000000 in
set_option maxRecDepth 100000 in
theorem ltask_none (S X : Nat → Prop) (B : Nat) (A : Tab) (T : Nat → Tk) (hg : LGood A T) (w : World) (v : Value) (h : Lf S X B w A T v) (x : Int) (hf : A.find x = none) :
    Calls Tryz.prog 25 #[v, .int .i64 x] w fun e w' => e = .returned (.tuple #[zT, errV 20]) ∧ Below w.heap.size w w' := by
  obtain ⟨sl, bl, ST, tv, rfl, hc, ht, hb, rfl, hj⟩ := h
  obtain ⟨WA, hWA⟩ : ∃ WA, WA = w.alloc (.cells #[.int .i64 0, .slice none 0 0, .int .i64 0, .int .i64 0, .int .i64 0, .int .i64 0, .int .i64 0, .int .i64 0] KT) := ⟨_, rfl⟩
  have HB := Lib.hid (show Below w.heap.size w WA from by rw [hWA]; exact (Below.refl _ _).alloc (Nat.le_refl _) _)
  have HT := Lib.hid (show HasT WA w.heap.size 0 (.slice none 0 0) kZ ∧ w.heap.size + 1 = WA.heap.size from by rw [hWA]; exact ⟨hasT_new w 0 _ kZ, by simp⟩)
  have HW := Lib.hid hWA
  have hcA := (HB.out.cell (p := ⟨bl, 0, none⟩) (cell_lt hc)).trans hc
  have HG := Lib.hid (kget_none ST B A hg.tab (tm T sl) WA tv (ht.below HB.out) x hf)
  obtain ⟨b, g1, c1, g2, c2, g3, c3, rfl, _⟩ := ht
  clear hj hg hWA hf hc
  go_enter Tryz.func25, Tryz.ntmps25
  go_upto_region 1 with fail
  rw [← HW.out]
  go_wp2_with fail
  refine HG.out.mono ?_
  rintro e w1 ⟨rfl, hb1⟩
  rw [errV_ne (by decide)]
  have HB1 := Lib.hid (bnext HB.out hb1)
  have HT1 := HT.out.1.below hb1
  obtain ⟨x0, x1, x2, x3, x4, x5, x6, x7⟩ := HT1.cells
  have fr := fun j => has_free HT1 j
  have hlt := has_lt HT1
  have HL := Lib.hid (show w.heap.size ≤ w1.heap.size from by omega)
  clear HT1 hb1
  go_wp2_with fail
  refine bodyPost_ret (v := .tuple #[zT, .iface 94 (.int .i64 20)]) (by simp [results, Tryz.results25, go_sem, x0, x1, x2, x3, x4, x5, x6, x7, hlt]) rfl ⟨rfl, ?_⟩
  exact below8a HB1.out (Nat.le_refl _) HL.out _ _ _ _ _ _ _ _ _
set_option maxHeartbeats 2000000 in
set_option maxRecDepth 100000 in
theorem ltask_some (S X Y : Nat → Prop) (B : Nat) (A : Tab) (T : Nat → Tk) (hg : LGood A T) (w : World) (v : Value) (h : Lf S X B w A T v) (x : Int) (hY : ∀ x, Y x → x < w.heap.size) (i : Nat) (hf : A.find x = some i) :
    Calls Tryz.prog 25 #[v, .int .i64 x] w fun e w' => ∃ s, e = .returned (.tuple #[tV (T i).p s (T i).k, .nilIface]) ∧ JobsX Y w' s (T i).n (T i).f ∧ Below w.heap.size w w' := by
  obtain ⟨sl, bl, ST, tv, rfl, hc, ht, hb, rfl, hj⟩ := h
  obtain ⟨WA, hWA⟩ : ∃ WA, WA = w.alloc (.cells #[.int .i64 0, .slice none 0 0, .int .i64 0, .int .i64 0, .int .i64 0, .int .i64 0, .int .i64 0, .int .i64 0] KT) := ⟨_, rfl⟩
  have HB := Lib.hid (show Below w.heap.size w WA from by rw [hWA]; exact (Below.refl _ _).alloc (Nat.le_refl _) _)
  have HT := Lib.hid (show HasT WA w.heap.size 0 (.slice none 0 0) kZ ∧ w.heap.size + 1 = WA.heap.size from by rw [hWA]; exact ⟨hasT_new w 0 _ kZ, by simp⟩)
  have HW := Lib.hid hWA
  have hcA := (HB.out.cell (p := ⟨bl, 0, none⟩) (cell_lt hc)).trans hc
  have HG := Lib.hid (kget_some ST B A hg.tab (tm T sl) WA tv (ht.below HB.out) (isSl_tm (w := w) hj) x i hf)
  dsimp only [tm] at HG
  have HJ := Lib.hid (hj i).1
  obtain ⟨⟨q0, cap0, hs, _⟩, _⟩ := hj i
  rw [hs] at HG HJ
  have hok := (hg.ok i).2.1
  have HY := Lib.hid hY
  obtain ⟨t, hti⟩ : ∃ t, t = T i := ⟨_, rfl⟩
  rw [← hti] at HG HJ hok ⊢
  obtain ⟨b, g1, c1, g2, c2, g3, c3, rfl, _⟩ := ht
  clear hj hg hWA hf hc hs hti hY
  obtain ⟨tp, ts, tn, tf, ⟨kg, ko, kn, kd, kc, kt⟩⟩ := t
  dsimp only at HG HJ hok ⊢
  have HTW := Lib.hid (fun W (hb : Below w.heap.size w W) => ltwin tp (.slice q0 tn cap0) tn tf ⟨kg, ko, kn, kd, kc, kt⟩ W (HJ.out.below hb) (by omega))
  have HK := Lib.hid hok
  clear hok
  go_enter Tryz.func25, Tryz.ntmps25
  go_upto_region 1 with fail
  rw [← HW.out]
  go_wp2_with fail
  refine HG.out.mono ?_
  rintro e w1 ⟨rfl, hb1⟩
  have HB1 := Lib.hid (bnext HB.out hb1)
  have HT1 := Lib.hid (HT.out.1.below hb1)
  clear hb1
  go_wp2_with fail
  refine (HTW.out _ (HB1.out.alloc HB1.out.size _)).mono ?_
  rintro e w2 ⟨y, rfl, q2, c2', rfl, ho, hb2⟩
  have HO := Lib.hid ho
  have HB2 := Lib.hid (bnext (HB1.out.alloc HB1.out.size _) hb2)
  have HT2 := HasT.below (has_old HT1.out _) hb2
  obtain ⟨x0, x1, x2, x3, x4, x5, x6, x7⟩ := HT2.cells
  have fr := fun j => has_free HT2 j
  have HL := Lib.hid (show w.heap.size < w1.heap.size from has_lt HT1.out)
  clear HT2 hb2 ho
  go_wp2_with fail
  refine bodyPost_ret (v := .tuple #[tV tp (.slice q2 tn c2') ⟨kg, ko, kn, kd, kc, kt⟩, .nilIface]) (by simp [results, Tryz.results25, go_sem, x0, x1, x2, x3, x4, x5, x6, x7]) rfl ⟨.slice q2 tn c2', rfl, ?_, below8 HB2.out (Nat.le_refl _) _ _ _ _ _ _ _ _⟩
  have hl := HL.out
  exact JobsX.own (own_low8 HO.out (by simp; omega) _ _ _ _ _ _ _ _) (by have := HK.out; omega) (fun x hx => by have := HY.out x hx; simp; omega)
theorem ltask (S X Y : Nat → Prop) (B : Nat) (A : Tab) (T : Nat → Tk) (hg : LGood A T) (w : World) (v : Value) (h : Lf S X B w A T v) (x : Int) (hY : ∀ x, Y x → x < w.heap.size) :
    Calls Tryz.prog 25 #[v, .int .i64 x] w (TaskPost Y w A T x) := by
  cases hf : A.find x with
  | none => exact (ltask_none S X B A T hg w v h x hf).mono fun e w' hh => ⟨fun _ => hh, fun i hi => by rw [hf] at hi; cases hi⟩
  | some i => exact (ltask_some S X Y B A T hg w v h x hY i hf).mono fun e w' hh => ⟨fun hi => (by rw [hf] at hi; cases hi), fun j hj => by rw [hf] at hj; cases hj; exact hh⟩
end Go.Proofs.YthbkinopgialmaaGreatDoor
/- The program's leaf: Push; no condition but those that each row names. -/
namespace Go.Proofs.YthbkinopgialmaaGreatDoor
open Go.RowKit Tsk

set_option maxHeartbeats 2000000 in
set_option maxRecDepth 100000 in
theorem lpush_none (S X : Nat → Prop) (B : Nat) (A : Tab) (T : Nat → Tk) (hg : LGood A T) (w : World) (v : Value) (h : Lf S X B w A T v) (x : Int) (j : Jb) (now : Int) (hf : A.find x = none) :
    Calls Tryz.prog 21 #[v, .int .i64 x, jV j, .int .i64 now] w fun e w' => e = .returned (errV 20) ∧ Below w.heap.size w w' := by
  obtain ⟨sl, bl, ST, tv, rfl, hc, ht, hb, rfl, hj⟩ := h
  obtain ⟨jl, jc, ja, jd⟩ := j
  obtain ⟨WA, hWA⟩ : ∃ WA, WA = w.alloc (.cells #[.int .i64 jl, .int .i64 jc, .int .i64 ja, .int .i64 jd] JT) := ⟨_, rfl⟩
  have HB := Lib.hid (show Below w.heap.size w WA from by rw [hWA]; exact (Below.refl _ _).alloc (Nat.le_refl _) _)
  have HW := Lib.hid hWA
  have hcA := (HB.out.cell (p := ⟨bl, 0, none⟩) (cell_lt hc)).trans hc
  have HG := Lib.hid (kget_none ST B A hg.tab (tm T sl) WA tv (ht.below HB.out) x hf)
  obtain ⟨b, g1, c1, g2, c2, g3, c3, rfl, _⟩ := ht
  clear hj hg hWA hf hc hb
  go_enter Tryz.func21, Tryz.ntmps21
  go_upto_region 1 with fail
  rw [← HW.out]
  go_wp2_with fail
  refine HG.out.mono ?_
  rintro e w1 ⟨rfl, hb1⟩
  rw [errV_ne (by decide)]
  have HB1 := Lib.hid (bnext HB.out hb1)
  clear hb1
  go_wp2_with fail
  go_ret
  exact ⟨rfl, HB1.out.alloc HB1.out.size _⟩
/-- What stands behind Push's call of task.Push. -/
def PushBox (w : World) (W1 : World) (b1 : Nat) (tp : Int) (sv : Value) (k : Ac) (jl jc ja jd : Int) : Prop := Below w.heap.size w W1 ∧ HasT W1 b1 tp sv k ∧ HasJ W1 w.heap.size ⟨jl, jc, ja, jd⟩ ∧ w.heap.size < b1
set_option maxHeartbeats 4000000 in
set_option maxRecDepth 100000 in
theorem lpush_some (S X : Nat → Prop) (B : Nat) (A : Tab) (T : Nat → Tk) (hg : LGood A T) (w : World) (v : Value) (h : Lf S X B w A T v) (hX : ∀ x, S x → X x) (hXw : ∀ x, X x → x < w.heap.size) (x : Int) (j : Jb) (now : Int) (i : Nat) (hf : A.find x = some i) :
    Calls Tryz.prog 21 #[v, .int .i64 x, jV j, .int .i64 now] w (LfPost S X B w A (if pushE (T i).p (T i).n (T i).f (T i).k j now = 0 then upd T i (tkPush (T i) sN j now) else T) v (errV (pushE (T i).p (T i).n (T i).f (T i).k j now))) := by
  have HLF := Lib.hid h
  obtain ⟨sl, bl, ST, tv, rfl, hc, ht, hb, hS, hj⟩ := h
  obtain ⟨jl, jc, ja, jd⟩ := j
  obtain ⟨WA, hWA⟩ : ∃ WA, WA = w.alloc (.cells #[.int .i64 jl, .int .i64 jc, .int .i64 ja, .int .i64 jd] JT) := ⟨_, rfl⟩
  have HB := Lib.hid (show Below w.heap.size w WA from by rw [hWA]; exact (Below.refl _ _).alloc (Nat.le_refl _) _)
  have HJB := Lib.hid (show HasJ WA w.heap.size ⟨jl, jc, ja, jd⟩ from by rw [hWA]; exact has_new _ _ _ rfl)
  have HW := Lib.hid hWA
  have HC := Lib.hid hc
  have hcA := (HB.out.cell (p := ⟨bl, 0, none⟩) (cell_lt hc)).trans hc
  have HG := Lib.hid (kget_some ST B A hg.tab (tm T sl) WA tv (ht.below HB.out) (isSl_tm (w := w) hj) x i hf)
  dsimp only [tm] at HG
  have HJ := Lib.hid (hj i).1
  have hok := hg.ok i
  have HXW := Lib.hid hXw
  obtain ⟨⟨q0, cap0, hs, _⟩, _⟩ := hj i
  rw [hs] at HG HJ
  obtain ⟨t, hti⟩ : ∃ t, t = T i := ⟨_, rfl⟩
  rw [← hti] at HG HJ hok ⊢
  clear hti
  obtain ⟨tp, ts, tn, tf, ⟨kg, ko, kn, kd, kc, kt⟩⟩ := t
  have hn8 := hok.2.1
  dsimp only at HG HJ hn8 ⊢
  have HPU := Lib.hid (fun W (hb : Below w.heap.size w W) => ppush_any tp (.slice q0 tn cap0) tn tf ⟨kg, ko, kn, kd, kc, kt⟩ ⟨jl, jc, ja, jd⟩ now W (HJ.out.below hb) (okT_c hok))
  have HST := Lib.hid (fun W (hb : Below w.heap.size w W) p' q n c f k => kset_some ST B A hg.tab (tm T sl) W tv (ht.below hb) x p' q n c f k i hf)
  have HACT := Lib.hid (fun W' (p : Int) (s : Value) (n : Nat) (f : Nat → Jb) (k : Ac) (ht : PKTab ST B W' A (upd (tm T sl) i ⟨p, s, n, f, k⟩) tv) (hk : Keeps ST w W') (hn : JobsX X W' s n f) => Lf.act2 (v := .pointer (some ⟨bl, 0, none⟩)) (T := T) rfl hc hb hS hj hX sN ht hk hn)
  have HTX := Lib.hid (show ∀ x, ST x → X x from fun x hx => hX x (by rw [hS]; exact .inr hx))
  obtain ⟨b, g1, c1, g2, c2, g3, c3, rfl, _⟩ := ht
  unfold tkPush
  dsimp only
  have HN8 := Lib.hid hn8
  clear hj hg hWA hf hc hs hS hX hb hok hXw hn8
  obtain ⟨E, hE⟩ : ∃ E, E = pushE tp tn tf ⟨kg, ko, kn, kd, kc, kt⟩ ⟨jl, jc, ja, jd⟩ now := ⟨_, rfl⟩
  rw [← hE] at HPU ⊢
  clear hE
  by_cases hE : E = 0
  · subst hE
    simp only [if_true, errV_0] at HPU ⊢
    go_enter Tryz.func21, Tryz.ntmps21
    go_upto_region 1 with fail
    rw [← HW.out]
    go_wp2_with fail
    refine HG.out.mono ?_
    rintro e w1 ⟨rfl, hb1⟩
    obtain ⟨W1, hW1⟩ : ∃ W1, W1 = w1.alloc (.cells #[.int .i64 tp, .slice q0 tn cap0, .int .i64 kg, .int .i64 ko, .int .i64 kn, .int .i64 kd, .int .i64 kc, .int .i64 kt] KT) := ⟨_, rfl⟩
    have HP1 := Lib.hid (show PushBox w W1 w1.heap.size tp (.slice q0 tn cap0) ⟨kg, ko, kn, kd, kc, kt⟩ jl jc ja jd from by
      rw [hW1]
      have h1 := bnext HB.out hb1
      exact ⟨h1.alloc h1.size _, hasT_new w1 tp _ ⟨kg, ko, kn, kd, kc, kt⟩, has_old (HJB.out.below hb1) _, has_lt (HJB.out.below hb1)⟩)
    have HW2 := Lib.hid hW1
    clear hW1 hb1
    go_upto_region 4 with fail
    rw [← HW2.out]
    obtain ⟨x0, x1, x2, x3, x4, x5, x6, x7⟩ := HP1.out.2.1.cells
    obtain ⟨y0, y1, y2, y3⟩ := HP1.out.2.2.1.cells
    go_wp2_with fail
    refine (HPU.out W1 HP1.out.1).mono ?_
    rintro e w2 ⟨xx, rfl, s2, c2', rfl, ho, hb2⟩
    have HB2 := Lib.hid (bnext HP1.out.1 hb2)
    have HT2 := Lib.hid (HP1.out.2.1.below hb2)
    have HO := Lib.hid ho
    have HBL := Lib.hid (show w.heap.size ≤ w1.heap.size ∧ w1.heap.size < W1.heap.size from ⟨Nat.le_of_lt HP1.out.2.2.2, has_lt HP1.out.2.1⟩)
    clear x0 x1 x2 x3 x4 x5 x6 x7 y0 y1 y2 y3 hb2 ho
    obtain ⟨z0, z1, z2, z3, z4, z5, z6, z7⟩ := HT2.out.cells
    have fr := fun j => has_free HT2.out j
    have HJ3 := Lib.hid (fun (W3 : World) (h3 : W3 = ((((((((w2.setCell ⟨w1.heap.size, 0, none⟩ (.int .i64 tp)).setCell ⟨w1.heap.size, 1, none⟩ (.slice s2 (tn + 1) c2')).setCell ⟨w1.heap.size, 2, none⟩ (.int .i64 kg)).setCell ⟨w1.heap.size, 3, none⟩ (.int .i64 ko)).setCell ⟨w1.heap.size, 4, none⟩ (.int .i64 kn)).setCell ⟨w1.heap.size, 5, none⟩ (.int .i64 kd)).setCell ⟨w1.heap.size, 6, none⟩ (.int .i64 kc)).setCell ⟨w1.heap.size, 7, none⟩ (.int .i64 kt))) =>
      show Below w.heap.size w W3 ∧ HasT W3 w1.heap.size tp (.slice s2 (tn + 1) c2') ⟨kg, ko, kn, kd, kc, kt⟩ ∧ JobsX X W3 (.slice s2 (tn + 1) c2') (tn + 1) (upd tf tn ⟨jl, jc, now, jd⟩) from by
        rw [h3]
        have hbl := HBL.out
        exact ⟨below8 HB2.out hbl.1 _ _ _ _ _ _ _ _, HasT.set8 (k' := ⟨kg, ko, kn, kd, kc, kt⟩) HT2.out, JobsX.own (own_low8 HO.out hbl.2 _ _ _ _ _ _ _ _) (by have := HN8.out; omega) (fun y hy => by have := HXW.out y hy; omega)⟩)
    go_upto_region 7 with fail
    obtain ⟨W3, hW3⟩ : ∃ W3, W3 = ((((((((w2.setCell ⟨w1.heap.size, 0, none⟩ (.int .i64 tp)).setCell ⟨w1.heap.size, 1, none⟩ (.slice s2 (tn + 1) c2')).setCell ⟨w1.heap.size, 2, none⟩ (.int .i64 kg)).setCell ⟨w1.heap.size, 3, none⟩ (.int .i64 ko)).setCell ⟨w1.heap.size, 4, none⟩ (.int .i64 kn)).setCell ⟨w1.heap.size, 5, none⟩ (.int .i64 kd)).setCell ⟨w1.heap.size, 6, none⟩ (.int .i64 kc)).setCell ⟨w1.heap.size, 7, none⟩ (.int .i64 kt)) := ⟨_, rfl⟩
    rw [← hW3]
    have H3 := Lib.hid (HJ3.out W3 hW3)
    clear hW3 z0 z1 z2 z3 z4 z5 z6 z7 fr HJ3
    obtain ⟨x0, x1, x2, x3, x4, x5, x6, x7⟩ := H3.out.2.1.cells
    have hc3 := (H3.out.1.cell (p := ⟨bl, 0, none⟩) (cell_lt HC.out)).trans HC.out
    go_region_law (go_simp; go_at_call 38; refine (HST.out _ H3.out.1.drew tp s2 (tn + 1) c2' (upd tf tn ⟨jl, jc, now, jd⟩) ⟨kg, ko, kn, kd, kc, kt⟩).mono ?_; rintro e w4 ⟨rfl, ht4, hk4⟩)
    all_goals
      have HR := Lib.hid (HACT.out w4 tp _ (tn + 1) (upd tf tn ⟨jl, jc, now, jd⟩) ⟨kg, ko, kn, kd, kc, kt⟩ ht4 (Keeps.trans (Keeps.of_below H3.out.1.drew) hk4) ((H3.out.2.2.below below_drewOne).keeps hk4 HTX.out))
      clear ht4 hk4
      go_wp2_with fail
      go_ret
      exact ⟨rfl, HR.out.1, HR.out.2⟩
  · simp only [if_neg hE] at HPU ⊢
    rw [errV_ne hE] at HPU ⊢
    go_enter Tryz.func21, Tryz.ntmps21
    go_upto_region 1 with fail
    rw [← HW.out]
    go_wp2_with fail
    refine HG.out.mono ?_
    rintro e w1 ⟨rfl, hb1⟩
    obtain ⟨W1, hW1⟩ : ∃ W1, W1 = w1.alloc (.cells #[.int .i64 tp, .slice q0 tn cap0, .int .i64 kg, .int .i64 ko, .int .i64 kn, .int .i64 kd, .int .i64 kc, .int .i64 kt] KT) := ⟨_, rfl⟩
    have HP1 := Lib.hid (show PushBox w W1 w1.heap.size tp (.slice q0 tn cap0) ⟨kg, ko, kn, kd, kc, kt⟩ jl jc ja jd from by
      rw [hW1]
      have h1 := bnext HB.out hb1
      exact ⟨h1.alloc h1.size _, hasT_new w1 tp _ ⟨kg, ko, kn, kd, kc, kt⟩, has_old (HJB.out.below hb1) _, has_lt (HJB.out.below hb1)⟩)
    have HW2 := Lib.hid hW1
    clear hW1 hb1
    go_upto_region 4 with fail
    rw [← HW2.out]
    obtain ⟨x0, x1, x2, x3, x4, x5, x6, x7⟩ := HP1.out.2.1.cells
    obtain ⟨y0, y1, y2, y3⟩ := HP1.out.2.2.1.cells
    go_wp2_with fail
    refine (HPU.out W1 HP1.out.1).mono ?_
    rintro e w2 ⟨xx, rfl, s2, c2', rfl, ho, hb2⟩
    have HB2 := Lib.hid (bnext HP1.out.1 hb2)
    have HT2 := Lib.hid (HP1.out.2.1.below hb2)
    have HO := Lib.hid ho
    have HBL := Lib.hid (show w.heap.size ≤ w1.heap.size ∧ w1.heap.size < W1.heap.size from ⟨Nat.le_of_lt HP1.out.2.2.2, has_lt HP1.out.2.1⟩)
    clear x0 x1 x2 x3 x4 x5 x6 x7 y0 y1 y2 y3 hb2 ho
    obtain ⟨z0, z1, z2, z3, z4, z5, z6, z7⟩ := HT2.out.cells
    have fr := fun j => has_free HT2.out j
    have hbl := HBL.out.1
    have HBF := Lib.hid (fun v0 v1 v2 v3 v4 v5 v6 v7 => below8 HB2.out hbl v0 v1 v2 v3 v4 v5 v6 v7)
    go_wp2_with fail
    go_ret
    exact ⟨rfl, HLF.out.below (HBF.out _ _ _ _ _ _ _ _), Keeps.of_below (HBF.out _ _ _ _ _ _ _ _)⟩
theorem lpush (S X : Nat → Prop) (B : Nat) (A : Tab) (T : Nat → Tk) (hg : LGood A T) (w : World) (v : Value) (h : Lf S X B w A T v) (hX : ∀ x, S x → X x) (hXw : ∀ x, X x → x < w.heap.size) (x : Int) (j : Jb) (now : Int) :
    Calls Tryz.prog 21 #[v, .int .i64 x, jV j, .int .i64 now] w (LfPost S X B w A (pushT A T x j now) v (errV (pushN A T x j now))) := by
  cases hf : A.find x with
  | none =>
    have e1 : pushN A T x j now = 20 := by simp [pushN, hf]
    have e2 : pushT A T x j now = T := by simp [pushT, hf]
    rw [e1, e2]
    exact (lpush_none S X B A T hg w v h x j now hf).mono fun e w' ⟨he, hb⟩ => ⟨he, h.below hb, Keeps.of_below hb⟩
  | some i =>
    have e1 : pushN A T x j now = pushE (T i).p (T i).n (T i).f (T i).k j now := by simp [pushN, hf]
    have e2 : pushT A T x j now = if pushE (T i).p (T i).n (T i).f (T i).k j now = 0 then upd T i (tkPush (T i) sN j now) else T := by simp [pushT, hf]
    rw [e1, e2]
    exact lpush_some S X B A T hg w v h hX hXw x j now i hf
end Go.Proofs.YthbkinopgialmaaGreatDoor
/- The program's leaf: list, Ready; no condition but those that each row names. -/
namespace Go.Proofs.YthbkinopgialmaaGreatDoor
open Go.RowKit Tsk

/-- The tasks that are told, ahead of place k. -/
def listF (A : Tab) (T : Nat → Tk) (k : Nat) : Nat → Tk := fun j => if j < k then T (A.idxs.getD j 0) else tk0
theorem listF_0 (A : Tab) (T : Nat → Tk) : listF A T 0 = fun _ => tk0 := by funext j; unfold listF; rw [if_neg (by omega)]
theorem listF_s (A : Tab) (T : Nat → Tk) (k : Nat) : listF A T (k + 1) = upd (listF A T k) k (T (A.idxs.getD k 0)) := by
  funext j
  unfold upd
  by_cases e : j = k
  · subst e; rw [if_pos rfl]; unfold listF; rw [if_pos (by omega)]
  · rw [if_neg e]
    unfold listF
    have : (j < k + 1) = (j < k) := propext ⟨fun h => by omega, fun h => by omega⟩
    simp only [this]
theorem idxs_at {A : Tab} {j : Nat} (h : j < A.idxs.length) : A.idxs.getD j 0 < A.gens.length ∧ A.t (A.idxs.getD j 0) = true := idxTo_at (t := A.t) (m := A.n) h
theorem all_at {A : Tab} {j : Nat} (h : j < A.idxs.length) : (ints A.all)[j]? = some (.int .i64 (A.hd (A.idxs.getD j 0))) := by
  unfold Tab.all ints
  simp [h, List.getD_eq_getElem?_getD]
/-- A row of the tasks that are told. -/
def ListPost (w : World) (A : Tab) (TT : Nat → Tk) (e : Ending) (w' : World) : Prop := ∃ g c, e = .returned (.slice (some ⟨g, 0, none⟩) A.idxs.length c) ∧ w'.ownsRow w.heap.size KT 8 (.slice (some ⟨g, 0, none⟩) A.idxs.length c) A.idxs.length (tkL (listF A TT A.idxs.length) A.idxs.length) ∧ Below w.heap.size w w'
set_option maxHeartbeats 4000000 in
set_option maxRecDepth 100000 in
theorem llist (ST Y : Nat → Prop) (B : Nat) (A : Tab) (TT : Nat → Tk) (hA : A.Good) (hT : IsSl TT) (w : World) (bl : Nat) (tv : Value) (hc : w.cell? ⟨bl, 0, none⟩ = some tv) (ht : PKTab ST B w A TT tv) (av : Value) (ha : Lst Y w av (ints A.all)) :
    Calls Tryz.prog 64 #[.pointer (some ⟨bl, 0, none⟩), av] w (ListPost w A TT) := by
  have HC := Lib.hid hc
  have hm4 : A.idxs.length ≤ 4096 := Nat.le_trans (idxTo_len A.t A.n) hA.n4
  have HG := Lib.hid (fun W (hb : Below w.heap.size w W) (j : Nat) (hj : j < A.idxs.length) => kget_some ST B A hA TT W tv (ht.below hb) hT (A.hd (A.idxs.getD j 0)) (A.idxs.getD j 0) (find_hd hA (idxs_at hj).1 (idxs_at hj).2))
  obtain ⟨b, g1, c1, g2, c2, g3, c3, rfl, _⟩ := ht
  obtain ⟨pa, ca, rfl, _, hal⟩ := ha
  have HAL := Lib.hid (show ∀ j, j < A.idxs.length → ∃ ba oa, pa = some ⟨ba, oa, none⟩ ∧ w.cell? ⟨ba, oa + j, none⟩ = some (.int .i64 (A.hd (A.idxs.getD j 0))) from fun j hj => by
    obtain ⟨ba, oa, e, _, hca⟩ := hal j _ (all_at hj)
    exact ⟨ba, oa, e, hca⟩)
  have el : (ints A.all).length = A.idxs.length := by rw [ints_len, all_len]
  rw [el]
  have HSL := Lib.hid hT
  unfold ListPost
  generalize hm : A.idxs.length = m at *
  have HM := Lib.hid hm
  have hmk := fun w => make_tasks m (by omega) w
  clear hc el hA hm hT hal
  go_enter Tryz.func64, Tryz.ntmps64
  go_upto_region 2 with fail
  have HB0 := Lib.hid (show Below w.heap.size w (w.alloc (.cells (tkZ m) KT)) from (Below.refl _ _).alloc (Nat.le_refl _) _)
  have HO0 := Lib.hid (show (w.alloc (.cells (tkZ m) KT)).ownsRow w.heap.size KT 8 (.slice (some ⟨w.heap.size, 0, none⟩) m m) m (tkL (listF A TT 0) m) from by rw [listF_0]; exact own_tkZ w m _ rfl (Nat.le_refl _) hm4)
  clear hmk
  generalize w.alloc (.cells (tkZ m) KT) = W0 at *
  go_wp2_with fail
  go_loopw [13] (fun iv wr => ∃ i : Nat, iv = .int .i64 i ∧ i ≤ m ∧ Hid (wr.ownsRow w.heap.size KT 8 (.slice (some ⟨w.heap.size, 0, none⟩) m m) m (tkL (listF A TT i) m)) ∧ Hid (Below w.heap.size w wr)) (fun iv _ => m - (intOf iv).toNat)
  case atStart => exact ⟨0, rfl, Nat.zero_le _, HO0, HB0⟩
  case round =>
    clear HO0 HB0
    obtain ⟨i, rfl, hi, HO, HB⟩ := hrel
    by_cases him : i < m
    · have hc1 := (HB.out.cell (p := ⟨bl, 0, none⟩) (cell_lt HC.out)).trans HC.out
      obtain ⟨ba, oa, rfl, hca⟩ := HAL.out i him
      have hca1 := (HB.out.cell (p := ⟨ba, oa + i, none⟩) (cell_lt hca)).trans hca
      have HGi := Lib.hid (HG.out wr HB.out i him)
      have z0 : (0 : Int) ≤ (i : Int) := by omega
      have z1 : (i : Int) < (m : Int) := by omega
      clear hca
      have HSi := Lib.hid (HSL.out (A.idxs.getD i 0))
      have HLS := Lib.hid (listF_s A TT i)
      generalize A.hd (A.idxs.getD i 0) = hx at *
      obtain ⟨t, hti⟩ : ∃ t, t = TT (A.idxs.getD i 0) := ⟨_, rfl⟩
      rw [← hti] at HGi HSi HLS
      clear hti
      obtain ⟨tp, ts, tn, tf, ⟨kg, ko, kn, kd, kc, kt⟩⟩ := t
      obtain ⟨q0, cq0, hq0⟩ := HSi.out
      dsimp only at hq0 HGi
      subst hq0
      clear HSi
      go_wp2_with fail
      refine HGi.out.mono ?_
      rintro e w1 ⟨rfl, hb1⟩
      have HB1 := Lib.hid (bnext HB.out hb1)
      have HO1 := Lib.hid (own_under HO.out hb1)
      have q := fun (r : Nat) (hr : r < 8) => (World.ownsRow.cellAt HO1.out (i * 8 + r) (by omega)).trans (tkL_at (listF A TT i) him r hr)
      have q0' := q 0 (by omega)
      have q1' := q 1 (by omega)
      have q2' := q 2 (by omega)
      have q3' := q 3 (by omega)
      have q4' := q 4 (by omega)
      have q5' := q 5 (by omega)
      have q6' := q 6 (by omega)
      have q7' := q 7 (by omega)
      rw [Nat.add_zero] at q0'
      have fr := fun j => World.ownsRow.frozenAt HO1.out j
      generalize prtT (listF A TT i i) 0 = y0 at *
      generalize prtT (listF A TT i i) 1 = y1 at *
      generalize prtT (listF A TT i i) 2 = y2 at *
      generalize prtT (listF A TT i i) 3 = y3 at *
      generalize prtT (listF A TT i i) 4 = y4 at *
      generalize prtT (listF A TT i i) 5 = y5 at *
      generalize prtT (listF A TT i i) 6 = y6 at *
      generalize prtT (listF A TT i i) 7 = y7 at *
      clear q hb1
      go_wp2_with fail
      go_roundw
      case rel =>
        refine ⟨i + 1, by go_num, by omega, Lib.hid ?_, Lib.hid (below_set8 HB1.out (Nat.le_refl _) _ _ _ _ _ _ _ _ _)⟩
        rw [HLS.out]
        exact own_set8 HO1.out i ⟨tp, .slice q0 tn cq0, tn, tf, ⟨kg, ko, kn, kd, kc, kt⟩⟩
      case measure => simp [intOf]; omega
    · have hk : i = m := by omega
      have HI := Lib.hid hk
      clear hk
      go_wp2_with fail
      go_ret
      exact ⟨_, _, rfl, by have h := HO.out; rw [HI.out] at h; exact h, HB.out⟩
theorem listF_tm (A : Tab) (T : Nat → Tk) (sl : Nat → Value) (j : Nat) (h : j < A.idxs.length) : (listF A (tm T sl) A.idxs.length j).n = (T (A.idxs.getD j 0)).n ∧ (listF A (tm T sl) A.idxs.length j).p = (T (A.idxs.getD j 0)).p := by
  unfold listF; rw [if_pos h]; exact ⟨rfl, rfl⟩
/-- The list as a slice of tasks. -/
theorem list_tasks {X : Nat → Prop} {w w' : World} {B m : Nat} {A : Tab} {T : Nat → Tk} {sl : Nat → Value} {v : Value} (hj : ∀ i, JobsX X w (sl i) (T i).n (T i).f) (hb : Below w.heap.size w w') (hm : m ≤ 4096) (h : w'.ownsRow B KT 8 v m (tkL (listF A (tm T sl) m) m)) : Tasks w' v m (listF A (tm T sl) m) :=
  own_tasks h (by omega) fun j hj2 => by
    unfold listF
    rw [if_pos hj2]
    exact (hj _).1.below hb
set_option maxHeartbeats 4000000 in
set_option maxRecDepth 100000 in
theorem lready (S X : Nat → Prop) (B : Nat) (A : Tab) (T : Nat → Tk) (hg : LGood A T) (w : World) (v : Value) (h : Lf S X B w A T v) :
    Calls Tryz.prog 30 #[v] w fun e w' => e = .returned (.int .i64 (rdyH A T)) ∧ Below w.heap.size w w' := by
  obtain ⟨sl, bl, ST, tv, rfl, hc, ht, hb, rfl, hj⟩ := h
  have hi0 := idxTo_len A.t A.n
  have hn8 : A.n = 8 := hg.len
  have HA := Lib.hid (kall (fun _ => False) ST B A hg.tab (tm T sl) w tv ht (fun _ k => k.elim))
  have HL := Lib.hid (fun W (hb : Below w.heap.size w W) av ha => llist ST (fun _ => False) B A (tm T sl) hg.tab (isSl_tm hj) W bl tv ((hb.cell (p := ⟨bl, 0, none⟩) (cell_lt hc)).trans hc) (ht.below hb) av ha)
  have HPK := Lib.hid (fun (W w' : World) (hb : Below w.heap.size w w') v hh => ppick v A.idxs.length (listF A (tm T sl) A.idxs.length) w' (list_tasks (B := W.heap.size) hj hb (by have : A.idxs.length ≤ A.n := hi0; omega) hh))
  have hpe : pickS (listF A (tm T sl) A.idxs.length) A.idxs.length = pickS (fun j => T ((idxTo A.t 8).getD j 0)) (idxTo A.t 8).length := by
    have e : A.idxs = idxTo A.t 8 := by unfold Tab.idxs idxTo; rw [hn8]
    rw [← e]
    exact pickS_congr fun j hj => listF_tm A T sl j hj
  obtain ⟨k1, k2⟩ := pick_first A.t T 8
  have hle := pickS_le (fun j => T ((idxTo A.t 8).getD j 0)) (idxTo A.t 8).length
  have e0 : A.idxs = idxTo A.t 8 := by unfold Tab.idxs idxTo; rw [hn8]
  rw [hpe] at HPK
  rw [← e0] at k1 k2 hle HPK
  have hk : (pickS (fun j => T (A.idxs.getD j 0)) A.idxs.length < 0 ∧ rdyH A T = 0) ∨ (∃ q : Nat, pickS (fun j => T (A.idxs.getD j 0)) A.idxs.length = q ∧ q < A.idxs.length ∧ rdyH A T = A.hd (A.idxs.getD q 0)) := by
    by_cases hr : rdy A T < 0
    · exact .inl ⟨by have := k1 hr; omega, by unfold rdyH; rw [if_pos hr]⟩
    · obtain ⟨q0, q1⟩ := k2 (by unfold rdy at hr; omega)
      refine .inr ⟨(pickS (fun j => T (A.idxs.getD j 0)) A.idxs.length).toNat, by omega, by omega, ?_⟩
      unfold rdyH
      rw [if_neg hr, q1]
      rfl
  generalize pickS (fun j => T (A.idxs.getD j 0)) A.idxs.length = pk at *
  have el : (ints A.all).length = A.idxs.length := by rw [ints_len, all_len]
  have HEL := Lib.hid el
  have HAT := Lib.hid (fun (j : Nat) (h : j < A.idxs.length) => all_at h)
  obtain ⟨b, g1, c1, g2, c2, g3, c3, rfl, _⟩ := ht
  have HHB := Lib.hid (cell_lt hc)
  have HHC := Lib.hid hc
  unfold ListPost at HL
  generalize hm : A.idxs.length = m at *
  clear hj hg hi0 hn8 hpe k1 k2 hle e0 hb el
  go_enter Tryz.func30, Tryz.ntmps30
  go_wp2_with fail
  refine HA.out.mono ?_
  rintro e w1 ⟨r, rfl, hl, hb1⟩
  have HB1 := Lib.hid hb1
  have HLL := Lib.hid hl
  obtain ⟨pa, ca, rfl, _, _⟩ := hl
  rw [HEL.out] at HLL ⊢
  clear hb1
  go_wp2_with fail
  refine (HL.out w1 HB1.out _ HLL.out).mono ?_
  rintro e w2 ⟨g, c, rfl, ho, hb2⟩
  have HB2 := Lib.hid (bnext HB1.out hb2)
  have HO := Lib.hid ho
  clear ho
  have HE2 := Lib.hid (fun (j : Nat) (h : j < m) => show ∃ ba oa, pa = some ⟨ba, oa, none⟩ ∧ w2.cell? ⟨ba, oa + j, none⟩ = some (.int .i64 (A.hd (A.idxs.getD j 0))) from by
    obtain ⟨_, _, e, _, hal⟩ := HLL.out
    simp only [Value.slice.injEq] at e
    obtain ⟨ba, oa, e2, _, hca⟩ := hal j _ (HAT.out j h)
    exact ⟨ba, oa, by rw [e.1]; exact e2, (hb2.cell (p := ⟨ba, oa + j, none⟩) (cell_lt hca)).trans hca⟩)
  clear hb2
  go_wp2_with fail
  refine (HPK.out w1 w2 HB2.out _ HO.out).mono ?_
  rintro e w3 ⟨rfl, hb3⟩
  have HB3 := Lib.hid (bnext HB2.out hb3)
  rcases hk with ⟨hneg, hr⟩ | ⟨q, hq, hqm, hr⟩
  · have hd : decide (pk < 0) = true := decide_eq_true hneg
    have HR := Lib.hid hr
    clear hb3 hr
    go_wp2_with fail
    go_ret
    exact ⟨ret_int HR.out.symm, HB3.out⟩
  · subst hq
    obtain ⟨ba, oa, rfl, hca⟩ := HE2.out q hqm
    have hc3 := (hb3.cell (p := ⟨ba, oa + q, none⟩) (cell_lt hca)).trans hca
    have HR := Lib.hid hr
    generalize A.hd (A.idxs.getD q 0) = hx at *
    have z0 : (0 : Int) ≤ (q : Int) := by omega
    have z1 : (q : Int) < (m : Int) := by omega
    clear hb3 hr hca
    go_wp2_with fail
    go_ret
    exact ⟨ret_int HR.out.symm, HB3.out⟩
end Go.Proofs.YthbkinopgialmaaGreatDoor
/- The program's leaf: Offer; no condition but those that each row names. -/
namespace Go.Proofs.YthbkinopgialmaaGreatDoor
open Go.RowKit Tsk

theorem find_zero {A : Tab} (h : A.Good) : A.find 0 = none := by
  cases hf : A.find 0 with
  | none => rfl
  | some i =>
    obtain ⟨h1, h2, h3⟩ := find_inv hf
    have h4 := (hd_parts h h1 h2).2.1
    rw [h3] at h4
    have h5 : kOf 0 = 0 := by decide
    have := h.k1
    omega
set_option maxHeartbeats 2000000 in
set_option maxRecDepth 100000 in
theorem loffer_none (S X : Nat → Prop) (B : Nat) (A : Tab) (T : Nat → Tk) (hg : LGood A T) (w : World) (v : Value) (h : Lf S X B w A T v) (now : Int) (hr : rdy A T < 0) :
    Calls Tryz.prog 23 #[v, .int .i64 now] w fun e w' => e = .returned (.tuple #[.int .i64 0, .int .i64 0, .int .i64 0]) ∧ Below w.heap.size w w' := by
  have HRD := Lib.hid (lready S X B A T hg w v h)
  have hrd : rdyH A T = 0 := by unfold rdyH; rw [if_pos hr]
  rw [hrd] at HRD
  obtain ⟨sl, bl, ST, tv, rfl, hc, ht, hb, hS, hj⟩ := h
  have HC := Lib.hid hc
  have HG := Lib.hid (fun W (hb : Below w.heap.size w W) => kget_none ST B A hg.tab (tm T sl) W tv (ht.below hb) 0 (find_zero hg.tab))
  rw [errV_ne (by decide)] at HG
  obtain ⟨b, g1, c1, g2, c2, g3, c3, rfl, _⟩ := ht
  clear hj hg hc hS hb hrd hr
  go_enter Tryz.func23, Tryz.ntmps23
  go_wp2_with fail
  refine HRD.out.mono ?_
  rintro e w0 ⟨rfl, hb0⟩
  have HB0 := Lib.hid hb0
  have hc0 := (hb0.cell (p := ⟨bl, 0, none⟩) (cell_lt HC.out)).trans HC.out
  clear hb0
  go_wp2_with fail
  refine (HG.out w0 HB0.out).mono ?_
  rintro e w1 ⟨rfl, hb1⟩
  have HB1 := Lib.hid (bnext HB0.out hb1)
  clear hb1
  go_wp2_with fail
  refine bodyPost_ret (v := .tuple #[.int .i64 0, .int .i64 0, .int .i64 0]) (by simp [results, Tryz.results23, go_sem]) rfl ⟨rfl, ?_⟩
  exact HB1.out.alloc HB1.out.size _
set_option maxHeartbeats 4000000 in
set_option maxRecDepth 100000 in
theorem loffer_no (S X : Nat → Prop) (B : Nat) (A : Tab) (T : Nat → Tk) (hg : LGood A T) (w : World) (v : Value) (h : Lf S X B w A T v) (hX : ∀ x, S x → X x) (hXw : ∀ x, X x → x < w.heap.size) (now : Int) (i : Nat) (hr : rdy A T = i) (hi : i < 8) (hti0 : A.t i = true) (hE : runE (T i).p (T i).n (T i).f (T i).k now ≠ 0) :
    Calls Tryz.prog 23 #[v, .int .i64 now] w (LfPost S X B w A T v (.tuple #[.int .i64 0, .int .i64 0, .int .i64 0])) := by
  have HLF := Lib.hid h
  have HRD := Lib.hid (fun W (hb : Below w.heap.size w W) => lready S X B A T hg W v (h.below hb))
  have hrd : rdyH A T = A.hd i := by unfold rdyH; rw [hr, if_neg (by omega), Int.toNat_natCast]
  rw [hrd] at HRD
  have hi8 : i < A.gens.length := by rw [hg.len]; exact hi
  have hf : A.find (A.hd i) = some i := find_hd hg.tab hi8 hti0
  obtain ⟨sl, bl, ST, tv, rfl, hc, ht, hb, hS, hj⟩ := h
  have HC := Lib.hid hc
  have HG := Lib.hid (fun W (hb : Below w.heap.size w W) => kget_some ST B A hg.tab (tm T sl) W tv (ht.below hb) (isSl_tm (w := w) hj) (A.hd i) i hf)
  dsimp only [tm] at HG
  have HJ := Lib.hid (hj i).1
  have hok := hg.ok i
  have HXW := Lib.hid hXw
  obtain ⟨⟨q0, cap0, hs, _⟩, _⟩ := hj i
  rw [hs] at HG HJ
  obtain ⟨t, hti⟩ : ∃ t, t = T i := ⟨_, rfl⟩
  rw [← hti] at HG HJ hok hE
  clear hti
  obtain ⟨tp, ts, tn, tf, ⟨kg, ko, kn, kd, kc, kt⟩⟩ := t
  have hn8 := hok.2.1
  dsimp only at HG HJ hn8 hE
  have HRU := Lib.hid (fun W (hb : Below w.heap.size w W) => prun_any tp (.slice q0 tn cap0) tn tf ⟨kg, ko, kn, kd, kc, kt⟩ now W (HJ.out.below hb) (okT_c hok))
  have HST := Lib.hid (fun W (hb : Below w.heap.size w W) p' q n c f k => kset_some ST B A hg.tab (tm T sl) W tv (ht.below hb) (A.hd i) p' q n c f k i hf)
  have HACT := Lib.hid (fun W' (p : Int) (s : Value) (n : Nat) (f : Nat → Jb) (k : Ac) (ht : PKTab ST B W' A (upd (tm T sl) i ⟨p, s, n, f, k⟩) tv) (hk : Keeps ST w W') (hn : JobsX X W' s n f) => Lf.act2 (v := .pointer (some ⟨bl, 0, none⟩)) (T := T) rfl hc hb hS hj hX sN ht hk hn)
  have HTX := Lib.hid (show ∀ x, ST x → X x from fun x hx => hX x (by rw [hS]; exact .inr hx))
  have hrn8 : runN tn (tf 0) ≤ 8 := by unfold runN; split <;> omega
  obtain ⟨b, g1, c1, g2, c2, g3, c3, rfl, _⟩ := ht
  have HN8 := Lib.hid hrn8
  clear hj hg hf hc hs hS hX hb hok hXw hn8 hrd hr hti0 hi8 hi hrn8
  generalize A.hd i = hx at *
  obtain ⟨E, hEE⟩ : ∃ E, E = runE tp tn tf ⟨kg, ko, kn, kd, kc, kt⟩ now := ⟨_, rfl⟩
  rw [← hEE] at HRU hE
  clear hEE
  simp only [if_neg hE] at HRU
  rw [errV_ne hE] at HRU
  go_enter Tryz.func23, Tryz.ntmps23
  go_wp2_with fail
  refine (HRD.out w (Below.refl _ _)).mono ?_
  rintro e w0 ⟨rfl, hb0⟩
  have HB0 := Lib.hid hb0
  have hc0 := (hb0.cell (p := ⟨bl, 0, none⟩) (cell_lt HC.out)).trans HC.out
  clear hb0
  go_wp2_with fail
  refine (HG.out w0 HB0.out).mono ?_
  rintro e w1 ⟨rfl, hb1⟩
  obtain ⟨W1, hW1⟩ : ∃ W1, W1 = w1.alloc (.cells #[.int .i64 tp, .slice q0 tn cap0, .int .i64 kg, .int .i64 ko, .int .i64 kn, .int .i64 kd, .int .i64 kc, .int .i64 kt] KT) := ⟨_, rfl⟩
  have HP1 := Lib.hid (show Below w.heap.size w W1 ∧ HasT W1 w1.heap.size tp (.slice q0 tn cap0) ⟨kg, ko, kn, kd, kc, kt⟩ ∧ w.heap.size ≤ w1.heap.size from by
    rw [hW1]
    have h1 := bnext HB0.out hb1
    exact ⟨h1.alloc h1.size _, hasT_new w1 tp _ ⟨kg, ko, kn, kd, kc, kt⟩, h1.size⟩)
  have HW2 := Lib.hid hW1
  clear hW1 hb1 hc0
  go_upto_region 5 with fail
  rw [← HW2.out]
  obtain ⟨x0, x1, x2, x3, x4, x5, x6, x7⟩ := HP1.out.2.1.cells
  go_wp2_with fail
  refine (HRU.out W1 HP1.out.1).mono ?_
  rintro e w2 ⟨xx, rfl, s2, c2', rfl, ho, hb2⟩
  have HB2 := Lib.hid (bnext HP1.out.1 hb2)
  have HT2 := Lib.hid (HP1.out.2.1.below hb2)
  have HO := Lib.hid ho
  have HBL := Lib.hid (show w.heap.size ≤ w1.heap.size ∧ w1.heap.size < W1.heap.size from ⟨HP1.out.2.2, has_lt HP1.out.2.1⟩)
  clear x0 x1 x2 x3 x4 x5 x6 x7 hb2 ho
  obtain ⟨z0, z1, z2, z3, z4, z5, z6, z7⟩ := HT2.out.cells
  have fr := fun j => has_free HT2.out j
  have hbl := HBL.out.1
  have HBF := Lib.hid (fun v0 v1 v2 v3 v4 v5 v6 v7 => below8 HB2.out hbl v0 v1 v2 v3 v4 v5 v6 v7)
  go_wp2_with fail
  refine bodyPost_ret (v := .tuple #[.int .i64 0, .int .i64 0, .int .i64 0]) (by simp [results, Tryz.results23, go_sem]) rfl ⟨rfl, ?_⟩
  exact ⟨HLF.out.below (HBF.out _ _ _ _ _ _ _ _), Keeps.of_below (HBF.out _ _ _ _ _ _ _ _)⟩
set_option maxHeartbeats 4000000 in
set_option maxRecDepth 100000 in
theorem loffer_yes (S X : Nat → Prop) (B : Nat) (A : Tab) (T : Nat → Tk) (hg : LGood A T) (w : World) (v : Value) (h : Lf S X B w A T v) (hX : ∀ x, S x → X x) (hXw : ∀ x, X x → x < w.heap.size) (now : Int) (i : Nat) (hr : rdy A T = i) (hi : i < 8) (hti0 : A.t i = true) (hE : runE (T i).p (T i).n (T i).f (T i).k now = 0) :
    Calls Tryz.prog 23 #[v, .int .i64 now] w (LfPost S X B w A (upd T i (tkRun (T i) sN now)) v (.tuple #[.int .i64 (A.hd i), .int .i64 (markS (runW ((T i).f 0))), .int .i64 (runL ((T i).f 0) now)])) := by
  have HLF := Lib.hid h
  have HRD := Lib.hid (fun W (hb : Below w.heap.size w W) => lready S X B A T hg W v (h.below hb))
  have hrd : rdyH A T = A.hd i := by unfold rdyH; rw [hr, if_neg (by omega), Int.toNat_natCast]
  rw [hrd] at HRD
  have hi8 : i < A.gens.length := by rw [hg.len]; exact hi
  have hf : A.find (A.hd i) = some i := find_hd hg.tab hi8 hti0
  obtain ⟨sl, bl, ST, tv, rfl, hc, ht, hb, hS, hj⟩ := h
  have HC := Lib.hid hc
  have HG := Lib.hid (fun W (hb : Below w.heap.size w W) => kget_some ST B A hg.tab (tm T sl) W tv (ht.below hb) (isSl_tm (w := w) hj) (A.hd i) i hf)
  dsimp only [tm] at HG
  have HJ := Lib.hid (hj i).1
  have hok := hg.ok i
  have HXW := Lib.hid hXw
  obtain ⟨⟨q0, cap0, hs, _⟩, _⟩ := hj i
  rw [hs] at HG HJ
  obtain ⟨t, hti⟩ : ∃ t, t = T i := ⟨_, rfl⟩
  rw [← hti] at HG HJ hok hE ⊢
  clear hti
  obtain ⟨tp, ts, tn, tf, ⟨kg, ko, kn, kd, kc, kt⟩⟩ := t
  have hn8 := hok.2.1
  dsimp only at HG HJ hn8 hE ⊢
  have HRU := Lib.hid (fun W (hb : Below w.heap.size w W) => prun_any tp (.slice q0 tn cap0) tn tf ⟨kg, ko, kn, kd, kc, kt⟩ now W (HJ.out.below hb) (okT_c hok))
  have HST := Lib.hid (fun W (hb : Below w.heap.size w W) p' q n c f k => kset_some ST B A hg.tab (tm T sl) W tv (ht.below hb) (A.hd i) p' q n c f k i hf)
  have HACT := Lib.hid (fun W' (p : Int) (s : Value) (n : Nat) (f : Nat → Jb) (k : Ac) (ht : PKTab ST B W' A (upd (tm T sl) i ⟨p, s, n, f, k⟩) tv) (hk : Keeps ST w W') (hn : JobsX X W' s n f) => Lf.act2 (v := .pointer (some ⟨bl, 0, none⟩)) (T := T) rfl hc hb hS hj hX sN ht hk hn)
  have HTX := Lib.hid (show ∀ x, ST x → X x from fun x hx => hX x (by rw [hS]; exact .inr hx))
  have hrn8 : runN tn (tf 0) ≤ 8 := by unfold runN; split <;> omega
  obtain ⟨b, g1, c1, g2, c2, g3, c3, rfl, _⟩ := ht
  have HN8 := Lib.hid hrn8
  clear hj hg hf hc hs hS hX hb hok hXw hn8 hrd hr hti0 hi8 hi hrn8
  generalize A.hd i = hx at *
  rw [hE] at HRU
  simp only [if_true, errV_0] at HRU
  unfold tkRun
  dsimp only
  clear hE
  have HMK := Lib.hid (fun W => lmark (runW (tf 0)) W)
  generalize runW (tf 0) = wt at *
  generalize runL (tf 0) now = lt at *
  obtain ⟨kk, hkk⟩ : ∃ kk, kk = runK ⟨kg, ko, kn, kd, kc, kt⟩ (tf 0) now := ⟨_, rfl⟩
  rw [← hkk] at HRU ⊢
  clear hkk
  obtain ⟨rg, ro, rnn, rd, rc, rt⟩ := kk
  generalize runN tn (tf 0) = rn at *
  generalize runF tf = rf at *
  generalize hmt : markS wt = mt at *
  clear hmt
  go_enter Tryz.func23, Tryz.ntmps23
  go_wp2_with fail
  refine (HRD.out w (Below.refl _ _)).mono ?_
  rintro e w0 ⟨rfl, hb0⟩
  have HB0 := Lib.hid hb0
  have hc0 := (hb0.cell (p := ⟨bl, 0, none⟩) (cell_lt HC.out)).trans HC.out
  clear hb0
  go_wp2_with fail
  refine (HG.out w0 HB0.out).mono ?_
  rintro e w1 ⟨rfl, hb1⟩
  obtain ⟨W1, hW1⟩ : ∃ W1, W1 = w1.alloc (.cells #[.int .i64 tp, .slice q0 tn cap0, .int .i64 kg, .int .i64 ko, .int .i64 kn, .int .i64 kd, .int .i64 kc, .int .i64 kt] KT) := ⟨_, rfl⟩
  have HP1 := Lib.hid (show Below w.heap.size w W1 ∧ HasT W1 w1.heap.size tp (.slice q0 tn cap0) ⟨kg, ko, kn, kd, kc, kt⟩ ∧ w.heap.size ≤ w1.heap.size from by
    rw [hW1]
    have h1 := bnext HB0.out hb1
    exact ⟨h1.alloc h1.size _, hasT_new w1 tp _ ⟨kg, ko, kn, kd, kc, kt⟩, h1.size⟩)
  have HW2 := Lib.hid hW1
  clear hW1 hb1 hc0
  go_upto_region 5 with fail
  rw [← HW2.out]
  obtain ⟨x0, x1, x2, x3, x4, x5, x6, x7⟩ := HP1.out.2.1.cells
  go_wp2_with fail
  refine (HRU.out W1 HP1.out.1).mono ?_
  rintro e w2 ⟨xx, rfl, s2, c2', rfl, ho, hb2⟩
  have HB2 := Lib.hid (bnext HP1.out.1 hb2)
  have HT2 := Lib.hid (HP1.out.2.1.below hb2)
  have HO := Lib.hid ho
  have HBL := Lib.hid (show w.heap.size ≤ w1.heap.size ∧ w1.heap.size < W1.heap.size from ⟨HP1.out.2.2, has_lt HP1.out.2.1⟩)
  clear x0 x1 x2 x3 x4 x5 x6 x7 hb2 ho
  obtain ⟨z0, z1, z2, z3, z4, z5, z6, z7⟩ := HT2.out.cells
  have fr := fun j => has_free HT2.out j
  have HJ3 := Lib.hid (fun (W3 : World) (h3 : W3 = ((((((((w2.setCell ⟨w1.heap.size, 0, none⟩ (.int .i64 tp)).setCell ⟨w1.heap.size, 1, none⟩ (.slice s2 rn c2')).setCell ⟨w1.heap.size, 2, none⟩ (.int .i64 rg)).setCell ⟨w1.heap.size, 3, none⟩ (.int .i64 ro)).setCell ⟨w1.heap.size, 4, none⟩ (.int .i64 rnn)).setCell ⟨w1.heap.size, 5, none⟩ (.int .i64 rd)).setCell ⟨w1.heap.size, 6, none⟩ (.int .i64 rc)).setCell ⟨w1.heap.size, 7, none⟩ (.int .i64 rt))) =>
    show Below w.heap.size w W3 ∧ HasT W3 w1.heap.size tp (.slice s2 rn c2') ⟨rg, ro, rnn, rd, rc, rt⟩ ∧ JobsX X W3 (.slice s2 rn c2') rn rf from by
      rw [h3]
      have hbl := HBL.out
      exact ⟨below8 HB2.out hbl.1 _ _ _ _ _ _ _ _, HasT.set8 (k' := ⟨rg, ro, rnn, rd, rc, rt⟩) HT2.out, JobsX.own (own_low8 HO.out hbl.2 _ _ _ _ _ _ _ _) (by have := HN8.out; omega) (fun y hy => by have := HXW.out y hy; omega)⟩)
  go_upto_region 8 with fail
  obtain ⟨W3, hW3⟩ : ∃ W3, W3 = ((((((((w2.setCell ⟨w1.heap.size, 0, none⟩ (.int .i64 tp)).setCell ⟨w1.heap.size, 1, none⟩ (.slice s2 rn c2')).setCell ⟨w1.heap.size, 2, none⟩ (.int .i64 rg)).setCell ⟨w1.heap.size, 3, none⟩ (.int .i64 ro)).setCell ⟨w1.heap.size, 4, none⟩ (.int .i64 rnn)).setCell ⟨w1.heap.size, 5, none⟩ (.int .i64 rd)).setCell ⟨w1.heap.size, 6, none⟩ (.int .i64 rc)).setCell ⟨w1.heap.size, 7, none⟩ (.int .i64 rt)) := ⟨_, rfl⟩
  rw [← hW3]
  have H3 := Lib.hid (HJ3.out W3 hW3)
  clear hW3 z0 z1 z2 z3 z4 z5 z6 z7 fr HJ3
  obtain ⟨x0, x1, x2, x3, x4, x5, x6, x7⟩ := H3.out.2.1.cells
  have hc3 := (H3.out.1.cell (p := ⟨bl, 0, none⟩) (cell_lt HC.out)).trans HC.out
  go_region_law (go_simp; go_at_call 38; refine (HST.out _ H3.out.1.drew tp s2 rn c2' rf ⟨rg, ro, rnn, rd, rc, rt⟩).mono ?_; rintro e w4 ⟨rfl, ht4, hk4⟩)
  all_goals
    have HR := Lib.hid (HACT.out w4 tp _ rn rf ⟨rg, ro, rnn, rd, rc, rt⟩ ht4 (Keeps.trans (Keeps.of_below H3.out.1.drew) hk4) ((H3.out.2.2.below below_drewOne).keeps hk4 HTX.out))
    clear ht4 hk4
    go_wp2_with fail
    refine (HMK.out _).mono ?_
    rintro e w5 ⟨rfl, rfl⟩
    go_wp2_with fail
    refine bodyPost_ret (v := .tuple #[.int .i64 hx, .int .i64 mt, .int .i64 lt]) (by simp [results, Tryz.results23, go_sem]) rfl ⟨rfl, ?_⟩
    exact ⟨HR.out.1, HR.out.2⟩
theorem loffer (S X : Nat → Prop) (B : Nat) (A : Tab) (T : Nat → Tk) (hg : LGood A T) (w : World) (v : Value) (h : Lf S X B w A T v) (hX : ∀ x, S x → X x) (hXw : ∀ x, X x → x < w.heap.size) (now : Int) :
    Calls Tryz.prog 23 #[v, .int .i64 now] w (LfPost S X B w A (offT A T now) v (.tuple #[.int .i64 (offH A T now), .int .i64 (offM A T now), .int .i64 (offL A T now)])) := by
  rcases off_ways A T now with ⟨hr, e1, e2, e3, e4⟩ | ⟨i, hr, hi, ht, _, ⟨hE, e1, e2, e3, e4⟩ | ⟨hE, e1, e2, e3, e4⟩⟩
  · rw [e1, e2, e3, e4]
    exact (loffer_none S X B A T hg w v h now hr).mono fun e w' ⟨he, hb⟩ => ⟨he, h.below hb, Keeps.of_below hb⟩
  · rw [e1, e2, e3, e4]
    exact loffer_no S X B A T hg w v h hX hXw now i hr hi ht hE
  · rw [e1, e2, e3, e4]
    exact loffer_yes S X B A T hg w v h hX hXw now i hr hi ht hE
end Go.Proofs.YthbkinopgialmaaGreatDoor
/- The program's leaf: Save; no condition but those that each row names. -/
namespace Go.Proofs.YthbkinopgialmaaGreatDoor
open Go.RowKit Tsk

/-- The tasks that are told. -/
def toldF (A : Tab) (T : Nat → Tk) : Nat → Tk := fun j => T (A.idxs.getD j 0)
/-- What Save answers. -/
def SavePost (w : World) (A : Tab) (T : Nat → Tk) (e : Ending) (w' : World) : Prop :=
  ∃ gs ts g c sl, e = .returned (.tuple #[gs, ts, .slice (some ⟨g, 0, none⟩) A.idxs.length c]) ∧ Lst (fun _ => False) w' gs (ints A.gens) ∧ Lst (fun _ => False) w' ts (bools A.taken) ∧ Tasks w' (.slice (some ⟨g, 0, none⟩) A.idxs.length c) A.idxs.length (tm (toldF A T) sl) ∧ Below w.heap.size w w'
/-- The row of tasks while each gets jobs of its own. -/
def SaveI (w : World) (F : Nat → Tk) (m g c : Nat) (wr : World) : Prop :=
  ∃ sl, wr.ownsRow w.heap.size KT 8 (.slice (some ⟨g, 0, none⟩) m c) m (tkL (tm F sl) m) ∧ (∀ j, j < m → JobsX (fun x => x = g) wr (sl j) (F j).n (F j).f) ∧ Below w.heap.size w wr
theorem SaveI.bel {w wr : World} {F : Nat → Tk} {m g c : Nat} (h : SaveI w F m g c wr) : Below w.heap.size w wr := by
  obtain ⟨sl, _, _, hb⟩ := h
  exact hb
theorem SaveI.fin {w wr : World} {F : Nat → Tk} {m g c : Nat} (h : SaveI w F m g c wr) (hm : m ≤ 4096) : ∃ sl, Tasks wr (.slice (some ⟨g, 0, none⟩) m c) m (tm F sl) := by
  obtain ⟨sl, ho, hj, _⟩ := h
  exact ⟨sl, own_tasks ho (by omega) fun j hlt => (hj j hlt).1⟩
theorem tm_upd2 (F : Nat → Tk) (sl : Nat → Value) (i : Nat) (s : Value) : tm F (upd sl i s) = upd (tm F sl) i ⟨(F i).p, s, (F i).n, (F i).f, (F i).k⟩ := by
  funext j
  unfold tm upd
  by_cases e : j = i
  · subst e; simp
  · simp [e]
theorem far8 {S : Nat → Prop} {w0 w : World} (h : Keeps S w0 w) (g i : Nat) (v0 v1 v2 v3 v4 v5 v6 v7 : Value) (hS : S g ∨ w0.heap.size ≤ g) : Keeps S w0 ((((((((w.setCell ⟨g, i * 8, none⟩ v0).setCell ⟨g, i * 8 + 1, none⟩ v1).setCell ⟨g, i * 8 + 2, none⟩ v2).setCell ⟨g, i * 8 + 3, none⟩ v3).setCell ⟨g, i * 8 + 4, none⟩ v4).setCell ⟨g, i * 8 + 5, none⟩ v5).setCell ⟨g, i * 8 + 6, none⟩ v6).setCell ⟨g, i * 8 + 7, none⟩ v7) :=
  (((((((h.setCell _ _ hS).setCell _ _ hS).setCell _ _ hS).setCell _ _ hS).setCell _ _ hS).setCell _ _ hS).setCell _ _ hS).setCell _ _ hS
set_option maxHeartbeats 4000000 in
set_option maxRecDepth 100000 in
theorem lsave (S X : Nat → Prop) (B : Nat) (A : Tab) (T : Nat → Tk) (hg : LGood A T) (w : World) (v : Value) (h : Lf S X B w A T v) :
    Calls Tryz.prog 32 #[v] w (SavePost w A T) := by
  obtain ⟨sl, bl, ST, tv, rfl, hc, ht, hb, rfl, hj⟩ := h
  have hn8 : A.idxs.length ≤ 8 := by have := idxTo_len A.t A.n; have e8 : A.n = 8 := hg.len; show (idxTo A.t A.n).length ≤ 8; omega
  have HC := Lib.hid hc
  have HSL := Lib.hid (kslots (fun _ => False) ST B A hg.tab (tm T sl) w tv ht (fun _ k => k.elim))
  have HAL := Lib.hid (fun W (hb : Below w.heap.size w W) => kall (fun _ => False) ST B A hg.tab (tm T sl) W tv (ht.below hb) (fun _ k => k.elim))
  have HLI := Lib.hid (fun W (hb : Below w.heap.size w W) av ha => llist ST (fun _ => False) B A (tm T sl) hg.tab (isSl_tm hj) W bl tv ((hb.cell (p := ⟨bl, 0, none⟩) (cell_lt hc)).trans hc) (ht.below hb) av ha)
  have HJ := Lib.hid (fun j => (hj (A.idxs.getD j 0)).1)
  have HOK := Lib.hid (show ∀ j, (toldF A T j).n ≤ 8 from fun j => (hg.ok _).2.1)
  have HTF := Lib.hid (show ∀ j, j < A.idxs.length → listF A (tm T sl) A.idxs.length j = tm (toldF A T) (fun j => sl (A.idxs.getD j 0)) j from fun j hj => by unfold listF; rw [if_pos hj]; rfl)
  obtain ⟨b, g1, c1, g2, c2, g3, c3, rfl, _⟩ := ht
  unfold SavePost
  unfold ListPost at HLI
  clear hj hg hb
  go_enter Tryz.func32, Tryz.ntmps32
  go_wp2_with fail
  refine HSL.out.mono ?_
  rintro e w1 ⟨gs, ts, rfl, hl1, hl2, hb1⟩
  have HB1 := Lib.hid hb1
  have HL1 := Lib.hid hl1
  have HL2 := Lib.hid hl2
  have hc1 := (hb1.cell (p := ⟨bl, 0, none⟩) (cell_lt HC.out)).trans HC.out
  clear hl1 hl2 hb1 hc
  go_wp2_with fail
  refine (HAL.out w1 HB1.out).mono ?_
  rintro e w2 ⟨r, rfl, hl, hb2⟩
  have HB2 := Lib.hid (bnext HB1.out hb2)
  have HB2' := Lib.hid hb2
  have HR := Lib.hid hl
  clear hl hb2 hc1
  go_wp2_with fail
  refine (HLI.out w2 HB2.out r HR.out).mono ?_
  rintro e w3 ⟨g, c, rfl, ho, hb3⟩
  have HB3 := Lib.hid (bnext HB2.out hb3)
  have HB3' := Lib.hid (bnext HB2'.out hb3)
  have HG := Lib.hid (show w2.heap.size ≤ g ∧ g < w3.heap.size from ho.lt g rfl)
  have HS0 := Lib.hid (show SaveI w (toldF A T) A.idxs.length g c w3 from ⟨fun j => sl (A.idxs.getD j 0), by
      rw [tkL_congr (fun j hj => (HTF.out j hj))] at ho
      exact own_base2 ho HB2.out.size, fun j hj => ⟨(HJ.out j).below HB3.out, fun a n' c' e h0 k => by
        have h1 := (HJ.out j).lt a n' c' e (by
          obtain ⟨p0, c0, e0, _⟩ := HJ.out j
          rw [show sl (A.idxs.getD j 0) = .slice (some a) n' c' from e] at e0
          cases e0
          exact h0)
        have h2 := HB2.out.size
        have h3 := HG.out.1
        simp only at k
        omega⟩, HB3.out⟩)
  generalize hm : A.idxs.length = m at *
  have HM := Lib.hid hm
  clear ho hb3 hm HJ HTF
  go_wp2_with fail
  go_loopw [27] (fun iv wr => ∃ i : Nat, iv = .int .i64 i ∧ i ≤ m ∧ Hid (SaveI w (toldF A T) m g c wr) ∧ Hid (Below w1.heap.size w1 wr)) (fun iv _ => m - (intOf iv).toNat)
  case atStart => exact ⟨0, rfl, Nat.zero_le _, HS0, HB3'⟩
  case round =>
    obtain ⟨i, rfl, hi, HS, HBW⟩ := hrel
    by_cases him : i < m
    · obtain ⟨sr, ho, hj, hbr⟩ := HS.out
      have HO := Lib.hid ho
      have HJR := Lib.hid hj
      have HBR := Lib.hid hbr
      have q := fun (r : Nat) (hr : r < 8) => (World.ownsRow.cellAt ho (i * 8 + r) (by omega)).trans (tkL_at (tm (toldF A T) sr) him r hr)
      have q0 := q 0 (by omega)
      have q1 := q 1 (by omega)
      have q2 := q 2 (by omega)
      have q3 := q 3 (by omega)
      have q4 := q 4 (by omega)
      have q5 := q 5 (by omega)
      have q6 := q 6 (by omega)
      have q7 := q 7 (by omega)
      rw [Nat.add_zero] at q0
      have hJi := hj i him
      have hni := HOK.out i
      obtain ⟨⟨p0, c0, e0, _⟩, _⟩ := hJi
      have HJI := Lib.hid (hj i him)
      have z0 : (0 : Int) ≤ (i : Int) := by omega
      have z1 : (i : Int) < (m : Int) := by omega
      obtain ⟨t, hti⟩ : ∃ t, t = toldF A T i := ⟨_, rfl⟩
      have HTI := Lib.hid hti
      have er : ∀ r, prtT (tm (toldF A T) sr i) r = prtT ⟨t.p, sr i, t.n, t.f, t.k⟩ r := fun r => by rw [hti]; rfl
      rw [er] at q0 q1 q2 q3 q4 q5 q6 q7
      rw [← hti] at HJI hni e0
      rw [e0] at q0 q1 q2 q3 q4 q5 q6 q7 HJI
      clear q er hti hj ho hbr e0
      obtain ⟨tp, ts', tn, tf, ⟨kg, ko, kn, kd, kc, kt⟩⟩ := t
      simp only [prtT, if_true, if_false, Nat.reduceEqDiff, Nat.one_ne_zero] at q0 q1 q2 q3 q4 q5 q6 q7
      dsimp only at HJI hni
      have HTW := Lib.hid (fun W (hb : Below wr.heap.size wr W) => ltwin tp (.slice p0 tn c0) tn tf ⟨kg, ko, kn, kd, kc, kt⟩ W (HJI.out.1.below hb) (by omega))
      have HNI := Lib.hid hni
      clear hni
      go_wp2_with fail
      refine (HTW.out _ ((Below.refl _ _).alloc (Nat.le_refl _) _)).mono ?_
      rintro e w5 ⟨y, rfl, s5, c5, rfl, ho5, hb5⟩
      have HB5 := Lib.hid (bnext ((Below.refl wr.heap.size wr).alloc (Nat.le_refl _) _) hb5)
      have HO5 := Lib.hid ho5
      have HR5 := Lib.hid (own_under HO.out HB5.out)
      have u := fun (r : Nat) (hr : r < 8) => (World.ownsRow.cellAt HR5.out (i * 8 + r) (by omega)).trans (tkL_at (tm (toldF A T) sr) him r hr)
      have u0 := u 0 (by omega)
      have u1 := u 1 (by omega)
      have u2 := u 2 (by omega)
      have u3 := u 3 (by omega)
      have u4 := u 4 (by omega)
      have u5 := u 5 (by omega)
      have u6 := u 6 (by omega)
      have u7 := u 7 (by omega)
      rw [Nat.add_zero] at u0
      have fr := fun j => World.ownsRow.frozenAt HR5.out j
      generalize prtT (tm (toldF A T) sr i) 0 = y0 at *
      generalize prtT (tm (toldF A T) sr i) 1 = y1 at *
      generalize prtT (tm (toldF A T) sr i) 2 = y2 at *
      generalize prtT (tm (toldF A T) sr i) 3 = y3 at *
      generalize prtT (tm (toldF A T) sr i) 4 = y4 at *
      generalize prtT (tm (toldF A T) sr i) 5 = y5 at *
      generalize prtT (tm (toldF A T) sr i) 6 = y6 at *
      generalize prtT (tm (toldF A T) sr i) 7 = y7 at *
      have HRG := Lib.hid (show w.heap.size ≤ g ∧ g < wr.heap.size ∧ w1.heap.size ≤ g from ⟨(HO.out.lt g rfl).1, (HO.out.lt g rfl).2, by have h1 := HG.out.1; have h2 := HB2'.out.size; omega⟩)
      clear u ho5 hb5 q0 q1 q2 q3 q4 q5 q6 q7
      go_wp2_with fail
      go_roundw
      case rel =>
        refine ⟨i + 1, by go_num, by omega, Lib.hid ⟨upd sr i (.slice s5 tn c5), ?_, fun j hj => ?_, ?_⟩, Lib.hid (below_set8 (bnext HBW.out HB5.out) HRG.out.2.2 _ _ _ _ _ _ _ _ _)⟩
        · rw [tm_upd2, ← HTI.out]
          exact own_set8 HR5.out i ⟨tp, .slice s5 tn c5, tn, tf, ⟨kg, ko, kn, kd, kc, kt⟩⟩
        · by_cases e : j = i
          · subst e
            rw [upd_same, ← HTI.out]
            have h1 : JobsX (fun x => x = g) w5 (.slice s5 tn c5) tn tf := JobsX.own HO5.out (by have := HNI.out; omega) (fun x hx => by have := HRG.out.2.1; simp; omega)
            exact h1.keeps (far8 (Keeps.refl (fun x => x = g) w5) g j _ _ _ _ _ _ _ _ (.inl rfl)) (fun _ h => h)
          · rw [upd_ne _ e]
            exact ((HJR.out j hj).below HB5.out).keeps (far8 (Keeps.refl (fun x => x = g) w5) g i _ _ _ _ _ _ _ _ (.inl rfl)) (fun _ h => h)
        · exact below_set8 (bnext HBR.out HB5.out) HRG.out.1 _ _ _ _ _ _ _ _ _
      case measure => simp [intOf]; omega
    · go_wp2_with fail
      obtain ⟨sf, hf⟩ := HS.out.fin (by omega)
      have em := HM.out
      subst em
      refine bodyPost_ret (v := .tuple #[gs, ts, .slice (some ⟨g, 0, none⟩) A.idxs.length c]) (by simp [results, Tryz.results32, go_sem]) rfl ?_
      exact ⟨gs, ts, g, c, sf, rfl, HL1.out.below HBW.out, HL2.out.below HBW.out, hf, HS.out.bel⟩
end Go.Proofs.YthbkinopgialmaaGreatDoor
