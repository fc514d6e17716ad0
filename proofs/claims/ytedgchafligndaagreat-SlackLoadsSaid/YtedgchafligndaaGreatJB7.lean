/- Texts of stages 3, 4, 12, 13 and 14 that stand together: ZLoadP ZLeaf ZLeafB ZLeafA ZLeafP ZLeafL ZLeafO; no condition but those that each row names. -/
import Derived.Test.YtedgchafligndaaGreatJB4
import Derived.Test.YtedgchafligndaaGreatJB5
import Derived.Test.YtedgchafligndaaGreatJB6
import Derived.StillTailTactics
import Derived.Deep.RegionLaw
/- The program's Load of a table of tasks: refused where the document refuses, else the table of the slots and tasks; no condition but those that each row names. -/
namespace Go.Proofs.YtedgchafligndaaGreat
open Go.RowKit Tsk

/-- copy over the whole of a row of the call's own. -/
theorem wpList_copy_row {P : Program} {w : World} {ops : Array Oper} {rest : List Oper} {o : Oper} {a : Act} {Q : Exit → Act → World → Prop} (hgd : o.guard = none) (d s : Operand) (dT sT : TypeId)
    (ho : o.op = .call { callee := .builtin .copy, args := #[d, s], argTypes := #[dT, sT] }) (elem : TypeId) (hu : P.underlying dT = some (.slice elem)) (hsz : (P.info? elem).map (·.size) = some 1)
    (B g n cap : Nat) (xs : List Value) (hown : w.ownsRow B elem 1 (.slice (some ⟨g, 0, none⟩) n cap) n xs) (ad : Addr) (sCap : Nat) (hd : a.eval d = .slice (some ⟨g, 0, none⟩) n cap) (hs : a.eval s = .slice (some ad) n sCap)
    (cs : List Value) (hn : cs.length = n) (hsrc : ∀ j v, cs[j]? = some v → w.cell? (ad.add j) = some v) (h1 : ∀ v ∈ cs, v.oneCell' = true)
    (h : ∀ w', w'.ownsRow B elem 1 (.slice (some ⟨g, 0, none⟩) n cap) n cs → Keeps (fun x => x = g) w w' → wpList P ops Q rest (a.put o.dst (goInt n)) w') : wpList P ops Q (o :: rest) a w := by
  rcases hown.2 with ⟨e, _⟩ | ⟨g', cap', cur, e, hb, hg, hnc, hcm, hcs, htake⟩
  · simp at e
  · simp only [Value.slice.injEq, Option.some.injEq, Addr.mk.injEq, and_true, true_and] at e
    obtain ⟨rfl, rfl⟩ := e
    refine wpList_copy_own hgd d s dT sT ho elem hu hsz g 0 n cap ad n sCap hd hs cur elem hg cs (by rw [hn]; exact (Nat.min_self n).symm) hsrc (by omega) h1 ?_
    rw [hn]
    refine h _ ⟨by omega, .inr ⟨g, cap, _, rfl, hb, setRow_heap w g cur _ elem (0, 0) hg, hnc, hcm, ?_, ?_⟩⟩ ⟨rfl, rfl, rfl, by simp [World.setRow], fun b _ hne => setRow_other w g b _ hne⟩
    · simp; omega
    · simp [hn]

theorem below_set8 {B g : Nat} {w W : World} (h : Below B w W) (hg : B ≤ g) (i : Nat) (v0 v1 v2 v3 v4 v5 v6 v7 : Value) : Below B w ((((((((W.setCell ⟨g, i * 8, none⟩ v0).setCell ⟨g, i * 8 + 1, none⟩ v1).setCell ⟨g, i * 8 + 2, none⟩ v2).setCell ⟨g, i * 8 + 3, none⟩ v3).setCell ⟨g, i * 8 + 4, none⟩ v4).setCell ⟨g, i * 8 + 5, none⟩ v5).setCell ⟨g, i * 8 + 6, none⟩ v6).setCell ⟨g, i * 8 + 7, none⟩ v7) :=
  below_low (below_low (below_low (below_low (below_low (below_low (below_low (below_low h _ _ hg) _ _ hg) _ _ hg) _ _ hg) _ _ hg) _ _ hg) _ _ hg) _ _ hg
set_option maxHeartbeats 1000000 in
set_option maxRecDepth 100000 in
theorem kload_no1 (S : Nat → Prop) (kind : Int) (gens : List Int) (v x y : Value) (w : World) (hv : Lst S w v (ints gens)) (h : ¬ (1 ≤ kind ∧ kind ≤ 3 ∧ 1 ≤ gens.length ∧ gens.length ≤ 4096)) :
    Calls Tryz.prog 20 #[.int .i64 kind, v, x, y] w fun e w' => e = .returned (.tuple #[.pointer none, .iface 65 (.int .i64 1)]) ∧ w = w' := by
  obtain ⟨p, cp, rfl, hm, hg⟩ := hv
  have e1 := ints_len gens
  rw [e1] at hm ⊢
  have HN := Lib.hid (fun w => knew_no kind gens.length w (by omega))
  clear h hg e1
  go_enter Tryz.func20, Tryz.ntmps20
  go_wp2_with fail
  refine (HN.out _).mono ?_
  rintro e w1 ⟨rfl, rfl⟩
  go_wp2_with fail
  go_ret2
  exact ⟨rfl, rfl⟩

set_option maxHeartbeats 2000000 in
set_option maxRecDepth 100000 in
theorem kload_no2 (S : Nat → Prop) (kind : Int) (gens : List Int) (taken : List Bool) (m : Nat) (TT : Nat → Tk) (v x y : Value) (w : World) (hv : Lst S w v (ints gens)) (hx : Lst S w x (bools taken)) (hy : Tasks w y m TT)
    (h1 : 1 ≤ kind) (h3 : kind ≤ 3) (n1 : 1 ≤ gens.length) (n4 : gens.length ≤ 4096) (h : ¬ ((taken.length = gens.length ∧ standB gens taken gens.length) ∧ m = rank taken taken.length)) :
    Calls Tryz.prog 20 #[.int .i64 kind, v, x, y] w fun e w' => e = .returned (.tuple #[.pointer none, .iface 65 (.int .i64 270)]) ∧ Below w.heap.size w w' := by
  have HN := Lib.hid (fun w => knew_ok kind gens.length w h1 h3 n1 n4)
  have HSN := Lib.hid (fun W (hb : Below w.heap.size w W) => stand_no S gens taken v x W (hv.below hb) (hx.below hb))
  have HSY := Lib.hid (fun W (hb : Below w.heap.size w W) => stand_yes S gens taken v x W (hv.below hb) (hx.below hb))
  have HC := Lib.hid (fun W (hb : Below w.heap.size w W) => count_any S taken x W (hx.below hb))
  obtain ⟨p, cp, rfl, hm, hg⟩ := hv
  obtain ⟨q, cq, rfl, hm2, ht⟩ := hx
  obtain ⟨r, cr, rfl, hm3, hy⟩ := hy
  have e1 := ints_len gens
  have e2 := bools_len taken
  rw [e1] at hm HSN HSY ⊢
  rw [e2] at hm2 HSN HSY HC ⊢
  clear hg ht hy e1 e2
  by_cases hs : taken.length = gens.length ∧ standB gens taken gens.length
  · have hne : ¬ (m = rank taken taken.length) := fun k => h ⟨hs, k⟩
    have hb1 : decide (m = rank taken taken.length) = false := decide_eq_false hne
    have HS := Lib.hid hs
    have hrk := rank_le taken taken.length
    clear h hs
    generalize rank taken taken.length = rk at *
    go_enter Tryz.func20, Tryz.ntmps20
    go_wp2_with fail
    refine (HN.out _).mono ?_
    rintro e w1 ⟨ST, vt, rfl, hpt, hb⟩
    clear hpt
    go_wp2_with fail
    refine (HSY.out _ hb HS.out.1 HS.out.2).mono ?_
    rintro e w2 ⟨rfl, rfl⟩
    go_wp2_with fail
    refine (HC.out _ hb).mono ?_
    rintro e w2 ⟨rfl, rfl⟩
    go_wp2_with fail
    go_ret2
    exact ⟨rfl, hb⟩
  · have HS := Lib.hid hs
    clear h hs
    go_enter Tryz.func20, Tryz.ntmps20
    go_wp2_with fail
    refine (HN.out _).mono ?_
    rintro e w1 ⟨ST, vt, rfl, hpt, hb⟩
    clear hpt
    go_wp2_with fail
    refine (HSN.out _ hb HS.out).mono ?_
    rintro e w2 ⟨rfl, rfl⟩
    go_wp2_with fail
    go_ret2
    exact ⟨rfl, hb⟩

theorem own_of_keeps {S : Nat → Prop} {B : Nat} {w w' : World} {A : Tab} {T : Nat → Tk} {b g1 c1 g2 c2 g3 c3 : Nat} (h : PK B w A T b g1 c1 g2 c2 g3 c3) (hk : Keeps S w w') (h0 : ¬ S b) : w'.cell? ⟨b, 0, none⟩ = w.cell? ⟨b, 0, none⟩ ∧ w'.cell? ⟨b, 1, none⟩ = w.cell? ⟨b, 1, none⟩ ∧ w'.cell? ⟨b, 2, none⟩ = w.cell? ⟨b, 2, none⟩ ∧ w'.cell? ⟨b, 3, none⟩ = w.cell? ⟨b, 3, none⟩ :=
  have lb := h.lts.1
  ⟨hk.cell (p := ⟨b, 0, none⟩) lb h0, hk.cell (p := ⟨b, 1, none⟩) lb h0, hk.cell (p := ⟨b, 2, none⟩) lb h0, hk.cell (p := ⟨b, 3, none⟩) lb h0⟩
theorem PK.copyG {B : Nat} {w w' : World} {A : Tab} {T : Nat → Tk} {b g1 c1 g2 c2 g3 c3 : Nat} (h : PK B w A T b g1 c1 g2 c2 g3 c3) (l : List Int) (hl : l.length = A.gens.length) (ho : w'.ownsRow B 3 1 (.slice (some ⟨g1, 0, none⟩) A.gens.length c1) A.gens.length (ints l)) (hk : Keeps (fun x => x = g1) w w') :
    PK B w' { A with gens := l } T b g1 c1 g2 c2 g3 c3 := by
  obtain ⟨e0, e1, e2, e3⟩ := own_of_keeps h hk h.n1
  refine ⟨e0.trans h.f0, e1.trans (by simp only [hl]; exact h.f1), e2.trans h.f2, e3.trans (by simp only [hl]; exact h.f3), ⟨by simp only [hl]; exact ho, own_keeps h.own.t hk (fun g e => by simp [Value.ownBlock] at e; subst e; exact fun e => h.own.n12 e.symm), by simp only [hl]; exact own_keeps h.own.l hk (fun g e => by simp [Value.ownBlock] at e; subst e; exact fun e => h.own.n13 e.symm), h.own.n12, h.own.n13, h.own.n23⟩, h.hb, h.n1, h.n2, h.n3⟩
theorem PK.copyT {B : Nat} {w w' : World} {A : Tab} {T : Nat → Tk} {b g1 c1 g2 c2 g3 c3 : Nat} (h : PK B w A T b g1 c1 g2 c2 g3 c3) (l : List Bool) (hl : l.length = A.taken.length) (ho : w'.ownsRow B 4 1 (.slice (some ⟨g2, 0, none⟩) A.taken.length c2) A.taken.length (bools l)) (hk : Keeps (fun x => x = g2) w w') :
    PK B w' { A with taken := l } T b g1 c1 g2 c2 g3 c3 := by
  obtain ⟨e0, e1, e2, e3⟩ := own_of_keeps h hk h.n2
  refine ⟨e0.trans h.f0, e1.trans h.f1, e2.trans (by simp only [hl]; exact h.f2), e3.trans h.f3, ⟨own_keeps h.own.g hk (fun g e => by simp [Value.ownBlock] at e; subst e; exact h.own.n12), by simp only [hl]; exact ho, own_keeps h.own.l hk (fun g e => by simp [Value.ownBlock] at e; subst e; exact fun e => h.own.n23 e.symm), h.own.n12, h.own.n13, h.own.n23⟩, h.hb, h.n1, h.n2, h.n3⟩

/-- The tasks while they are laid. -/
def fillT (taken : List Bool) (TT : Nat → Tk) (k : Nat) : Nat → Tk := fun i => if i < k ∧ taken.getD i false = true then TT (rank taken i) else tk0
theorem fillT_0 (taken : List Bool) (TT : Nat → Tk) : fillT taken TT 0 = fun _ => tk0 := by
  funext i; unfold fillT; rw [if_neg (by omega)]
theorem fillT_no {taken : List Bool} {TT : Nat → Tk} {k : Nat} (h : taken.getD k false = false) : fillT taken TT (k + 1) = fillT taken TT k := by
  funext i
  unfold fillT
  by_cases e : i = k
  · subst e
    rw [if_neg (fun c => by rw [h] at c; cases c.2), if_neg (fun c => by omega)]
  · have : (i < k + 1) = (i < k) := propext ⟨fun h => by omega, fun h => by omega⟩
    simp only [this]
theorem fillT_yes {taken : List Bool} {TT : Nat → Tk} {k : Nat} (h : taken.getD k false = true) : fillT taken TT (k + 1) = upd (fillT taken TT k) k (TT (rank taken k)) := by
  funext i
  unfold upd
  by_cases e : i = k
  · subst e
    rw [if_pos rfl]
    unfold fillT
    rw [if_pos ⟨by omega, h⟩]
  · rw [if_neg e]
    unfold fillT
    have : (i < k + 1) = (i < k) := propext ⟨fun h => by omega, fun h => by omega⟩
    simp only [this]
abbrev loadTo (kind : Int) (gens : List Int) (taken : List Bool) (L : List Int) : Tab := ⟨kind, gens, taken, L⟩

set_option maxHeartbeats 4000000 in
set_option maxRecDepth 100000 in
theorem kload_ok (S : Nat → Prop) (kind : Int) (gens : List Int) (taken : List Bool) (m : Nat) (TT : Nat → Tk) (L : List Int) (v x y : Value) (w : World) (hv : Lst S w v (ints gens)) (hx : Lst S w x (bools taken)) (hy : Tasks w y m TT)
    (h1 : 1 ≤ kind) (h3 : kind ≤ 3) (n1 : 1 ≤ gens.length) (n4 : gens.length ≤ 4096) (hlt : taken.length = gens.length) (ho : standB gens taken gens.length) (hr : m = rank taken taken.length) :
    Calls Tryz.prog 20 #[.int .i64 kind, v, x, y] w fun e w' => ∃ S v, e = .returned (.tuple #[v, .nilIface]) ∧ PKTab S w.heap.size w' (loadTo kind gens taken L) (fillT taken TT gens.length) v ∧ Below w.heap.size w w' := by
  have HN := Lib.hid (fun w => knew_ok kind gens.length w h1 h3 n1 n4)
  have HSY := Lib.hid (fun W (hb : Below w.heap.size w W) => stand_yes S gens taken v x W (hv.below hb) (hx.below hb) hlt ho)
  have HC := Lib.hid (fun W (hb : Below w.heap.size w W) => count_any S taken x W (hx.below hb))
  obtain ⟨p, cp, rfl, hm, hg⟩ := hv
  obtain ⟨q, cq, rfl, hm2, ht⟩ := hx
  have HYJ := Lib.hid hy
  obtain ⟨r, cr, rfl, hm3, hy⟩ := hy
  have e1 := ints_len gens
  have e2 := bools_len taken
  rw [e1] at hm HSY ⊢
  rw [e2] at hm2 HSY HC ⊢
  obtain ⟨b1, o1, rfl, _, hd1⟩ := hg 0 _ (ints_at (by omega))
  obtain ⟨b2, o2, rfl, _, hd2⟩ := ht 0 _ (bools_at (by omega))
  have k1 := cell_lt hd1
  have k2 := cell_lt hd2
  simp only at k1 k2
  have HG := Lib.hid (show ∀ j u, (ints gens)[j]? = some u → w.cell? ⟨b1, o1 + j, none⟩ = some u from fun j u hu => by
    obtain ⟨b, off, e, _, hc⟩ := hg j u hu
    injection e with e
    injection e with e1 e2
    subst e1 e2; exact hc)
  have HT := Lib.hid (show ∀ j u, (bools taken)[j]? = some u → w.cell? ⟨b2, o2 + j, none⟩ = some u from fun j u hu => by
    obtain ⟨b, off, e, _, hc⟩ := ht j u hu
    injection e with e
    injection e with e1 e2
    subst e1 e2; exact hc)
  have HY := Lib.hid hy
  have HR := Lib.hid hr
  have E1 := Lib.hid e1
  have E2 := Lib.hid e2
  have HLT := Lib.hid hlt
  rw [← hr] at HC
  rw [hlt] at HSY HC ⊢
  clear hg ht hy hr ho e1 e2 hlt hd1 hd2 hm2
  go_enter Tryz.func20, Tryz.ntmps20
  go_wp2_with fail
  refine (HN.out _).mono ?_
  rintro e w1 ⟨ST, vt, rfl, ⟨b, g1, c1, g2, c2, g3, c3, rfl, hpt, hST⟩, hb⟩
  clear hST
  have f1 := hpt.f1
  have f2 := hpt.f2
  rw [show (Tab.new kind gens.length).gens.length = gens.length by simp [Tab.new]] at f1
  rw [show (Tab.new kind gens.length).taken.length = gens.length by simp [Tab.new]] at f2
  have hog := hpt.own.g
  rw [show (Tab.new kind gens.length).gens.length = gens.length by simp [Tab.new]] at hog
  have HOG := Lib.hid hog
  have HPT := Lib.hid hpt
  clear hpt hog
  go_wp2_with fail
  refine (HSY.out _ hb).mono ?_
  rintro e w2 ⟨rfl, rfl⟩
  go_wp2_with fail
  refine (HC.out _ hb).mono ?_
  rintro e w2 ⟨rfl, rfl⟩
  go_wp2_with (with_reducible refine wpList_copy_row rfl (.tmp 39) (.tmp 40) 22 22 rfl 3 Tryz.underlying22 Tryz.size3 w.heap.size g1 gens.length c1 _ HOG.out ⟨b1, o1, none⟩ cp rfl rfl (ints gens) E1.out ?a1 ints_one ?_)
  case a1 =>
    intro j u hu
    rw [addr_plus]
    exact (hb.cell (p := ⟨b1, o1 + j, none⟩) k1).trans (HG.out j u hu)
  intro w2 ho2 hk2
  have hl1 := (HPT.out.lts.2.1).1
  have hl2 := (HPT.out.lts.2.2.1).1
  have hb2 : Below w.heap.size w w2 := below_keeps hb hk2 (fun x e => by omega)
  have hpt2 := HPT.out.copyG gens (by simp [Tab.new]) (by rw [show (Tab.new kind gens.length).gens.length = gens.length by simp [Tab.new]]; exact ho2) hk2
  have HPT2 := Lib.hid hpt2
  have g2' := hpt2.f2
  simp only at g2'
  rw [show (Tab.new kind gens.length).taken.length = gens.length by simp [Tab.new]] at g2'
  have hot := hpt2.own.t
  simp only at hot
  rw [show (Tab.new kind gens.length).taken.length = gens.length by simp [Tab.new]] at hot
  have HOT := Lib.hid hot
  clear ho2 hk2 hpt2 hot f1 f2
  have E2' := Lib.hid (E2.out.trans HLT.out)
  go_wp2_with (with_reducible refine wpList_copy_row rfl (.tmp 45) (.tmp 46) 23 23 rfl 4 Tryz.underlying23 Tryz.size4 w.heap.size g2 gens.length c2 _ HOT.out ⟨b2, o2, none⟩ cq rfl rfl (bools taken) E2'.out ?a2 bools_one ?_)
  case a2 =>
    intro j u hu
    rw [addr_plus]
    exact (hb2.cell (p := ⟨b2, o2 + j, none⟩) k2).trans (HT.out j u hu)
  intro w3 ho3 hk3
  have hb3 : Below w.heap.size w w3 := below_keeps hb2 hk3 (fun x e => by omega)
  have hpt3 := HPT2.out.copyT taken (by simp [Tab.new, HLT.out]) (by simp only; rw [show (Tab.new kind gens.length).taken.length = gens.length by simp [Tab.new]]; exact ho3) hk3
  have HPT3 := Lib.hid (show PK w.heap.size w3 (loadTo kind gens taken L) (fillT taken TT 0) b g1 c1 g2 c2 g3 c3 by rw [fillT_0]; exact ⟨hpt3.f0, hpt3.f1, hpt3.f2, by have := hpt3.f3; simpa using this, ⟨hpt3.own.g, hpt3.own.t, by have := hpt3.own.l; simpa using this, hpt3.own.n12, hpt3.own.n13, hpt3.own.n23⟩, hpt3.hb, hpt3.n1, hpt3.n2, hpt3.n3⟩)
  have f3 := HPT3.out.f3
  clear ho3 hk3 hpt3 g2' hb hb2
  go_wp2_with fail
  go_loopw [12, 13, 53] (fun gv _ i wr => ∃ k : Nat, k ≤ gens.length ∧ i = .int .i64 k ∧ gv = .int .i64 (rank taken k : Nat) ∧ Hid (PK w.heap.size wr (loadTo kind gens taken L) (fillT taken TT k) b g1 c1 g2 c2 g3 c3) ∧ Below w.heap.size w wr) (fun _ _ i _ => gens.length - (intOf i).toNat)
  case atStart => exact ⟨0, Nat.zero_le _, rfl, rfl, HPT3, hb3⟩
  case round =>
    obtain ⟨k, hk, rfl, rfl, HK, hbk⟩ := hrel
    by_cases hlt : k < gens.length
    · have q : wr.cell? ⟨b2, o2 + k, none⟩ = some (.bool (taken.getD k false)) := (hbk.cell (p := ⟨b2, o2 + k, none⟩) k2).trans (HT.out k _ (bools_at (by have := HLT.out; omega)))
      have z0 : (0 : Int) ≤ (k : Int) := by omega
      have z1 : (k : Int) < (gens.length : Int) := by omega
      have hrk := rank_le taken k
      cases htk : taken.getD k false with
      | true =>
        rw [htk] at q
        have hs := rank_succ taken k
        rw [if_pos htk] at hs
        have hmono := rank_mono taken (i := k + 1) (j := taken.length) (by have := HLT.out; omega)
        have hrl : rank taken k < m := by have := HR.out; omega
        obtain ⟨b3, o3, rfl, d0, d1, d2, d3, d4, d5, d6, d7, hJ⟩ := HY.out (rank taken k) hrl
        obtain ⟨s1, cp1, hs1, _⟩ := hJ
        rw [hs1] at d1
        have hb3l : b3 < w.heap.size := cell_lt d0
        have kl := fun o => hbk.cell (p := ⟨b3, o, none⟩) hb3l
        have x0 := (kl _).trans d0
        have x1 := (kl _).trans d1
        have x2 := (kl _).trans d2
        have x3 := (kl _).trans d3
        have x4 := (kl _).trans d4
        have x5 := (kl _).trans d5
        have x6 := (kl _).trans d6
        have x7 := (kl _).trans d7
        have f3' := HK.out.f3
        obtain ⟨q0, q1, q2, q3, q4, q5, q6, q7, q8⟩ := HK.out.cells hlt
        have z2 : (0 : Int) ≤ ((rank taken k : Nat) : Int) := by omega
        have z3 : ((rank taken k : Nat) : Int) < (m : Int) := by omega
        have HF := Lib.hid (fillT_yes (TT := TT) htk)
        have HSS := Lib.hid hs
        obtain ⟨t, hti⟩ : ∃ t, t = TT (rank taken k) := ⟨_, rfl⟩
        rw [← hti] at x0 x1 x2 x3 x4 x5 x6 x7 hs1
        have HTI := Lib.hid hti
        clear hs htk hmono f3 hti d0 d1 d2 d3 d4 d5 d6 d7 kl
        obtain ⟨tp, ts, tn, tf, ⟨kg, ko, kn, kd, kc, kt⟩⟩ := t
        dsimp only at x0 x1 x2 x3 x4 x5 x6 x7 hs1
        subst hs1
        generalize (fillT taken TT k k).p = y0 at *
        generalize (fillT taken TT k k).s = y1 at *
        generalize (fillT taken TT k k).k.g = y2 at *
        generalize (fillT taken TT k k).k.o = y3 at *
        generalize (fillT taken TT k k).k.n = y4 at *
        generalize (fillT taken TT k k).k.d = y5 at *
        generalize (fillT taken TT k k).k.c = y6 at *
        generalize (fillT taken TT k k).k.t = y7 at *
        generalize hrn : rank taken k = rn at *
        have HRN := Lib.hid hrn
        clear hrn
        go_upto_region 13 with fail
        go_cut [] (fun wx => Hid (PK w.heap.size wx (loadTo kind gens taken L) (fillT taken TT (k + 1)) b g1 c1 g2 c2 g3 c3) ∧ Below w.heap.size w wx)
        case first =>
          go_still_tail 10, (by kernel_rfl)
          change wpList _ _ _ _ _ wr.drew
          go_wp2_with fail
          go_meet
          refine ⟨Lib.hid ?_, ?_⟩
          · rw [HF.out, ← HTI.out]
            exact (HK.out.task k ⟨tp, .slice s1 tn cp1, tn, tf, ⟨kg, ko, kn, kd, kc, kt⟩⟩ L).drew
          · have hg3 := (HK.out.lts.2.2.2).1
            exact below_drew (below_set8 hbk hg3 _ _ _ _ _ _ _ _ _)
        case rest =>
          obtain ⟨K1, K2⟩ := hcut
          clear q q0 q1 q2 q3 q4 q5 q6 q7 q8 f3' hbk x0 x1 x2 x3 x4 x5 x6 x7
          go_wp2_with fail
          go_roundw
          case rel => exact ⟨k + 1, by omega, by go_num, by rw [HSS.out]; go_num, K1, K2⟩
          case measure => simp [intOf]; omega
      | false =>
        rw [htk] at q
        have hs := rank_succ taken k
        rw [if_neg (by rw [htk]; simp)] at hs
        have HF := Lib.hid (fillT_no (TT := TT) htk)
        have HSS := Lib.hid hs
        clear htk hs f3
        go_wp2_with fail
        go_roundw
        case rel => exact ⟨k + 1, by omega, by go_num, by rw [HSS.out]; rfl, Lib.hid (by rw [HF.out]; exact HK.out), hbk⟩
        case measure => simp [intOf]; omega
    · have hk' : k = gens.length := by omega
      have HE := Lib.hid hk'
      clear hk'
      go_wp2_with fail
      go_ret2
      exact ⟨_, _, rfl, ⟨b, g1, c1, g2, c2, g3, c3, rfl, by rw [← HE.out]; exact HK.out, rfl⟩, hbk⟩
end Go.Proofs.YtedgchafligndaaGreat
/- The program's leaf as it lies in memory: one cell, a table of tasks, the tasks' jobs; what stays where others turn; nothing of the program is walked; no condition. -/
namespace Go.Proofs.YtedgchafligndaaGreat
open Go.RowKit Tsk

/-- A slice of jobs that lies in none of the blocks X. -/
def JobsX (X : Nat → Prop) (w : World) (v : Value) (n : Nat) (f : Nat → Jb) : Prop := Jobs w v n f ∧ ∀ a m c, v = .slice (some a) m c → 0 < n → ¬ X a.block
theorem JobsX.keeps {X R : Nat → Prop} {w w' : World} {v : Value} {n : Nat} {f : Nat → Jb} (h : JobsX X w v n f) (hk : Keeps R w w') (hR : ∀ x, R x → X x) : JobsX X w' v n f := by
  refine ⟨?_, h.2⟩
  obtain ⟨⟨p, cap, e, hm, hc⟩, hx⟩ := h
  refine ⟨p, cap, e, hm, fun j hj => ?_⟩
  obtain ⟨b, off, e2, c0, c1, c2, c3⟩ := hc j hj
  have hl := cell_lt c0
  have hn : ¬ R b := fun r => hx ⟨b, off, none⟩ n cap (by rw [e, e2]) (by omega) (hR b r)
  have k := fun (o : Nat) => hk.cell (p := ⟨b, o, none⟩) hl hn
  exact ⟨b, off, e2, (k _).trans c0, (k _).trans c1, (k _).trans c2, (k _).trans c3⟩
theorem JobsX.below {X : Nat → Prop} {w w' : World} {v : Value} {n : Nat} {f : Nat → Jb} (h : JobsX X w v n f) (hb : Below w.heap.size w w') : JobsX X w' v n f := ⟨h.1.below hb, h.2⟩
theorem JobsX.mono {X Y : Nat → Prop} {w : World} {v : Value} {n : Nat} {f : Nat → Jb} (h : JobsX X w v n f) (hy : ∀ x, x < w.heap.size → Y x → X x) : JobsX Y w v n f :=
  ⟨h.1, fun a m c e hn k => h.2 a m c e hn (hy _ (h.1.lt a m c e (by
    obtain ⟨p, cap, e1, _⟩ := h.1
    rw [e] at e1
    cases e1
    exact hn)) k)⟩
theorem JobsX.own {X : Nat → Prop} {B : Nat} {w : World} {v : Value} {n : Nat} {f : Nat → Jb} (h : JobsO B w v n f) (hn : n ≤ 9223372036854775807) (hX : ∀ x, X x → x < B) : JobsX X w v n f := by
  refine ⟨own_jobs h hn, fun a m c e h0 k => ?_⟩
  obtain ⟨g, cap, e2, _, hB, _⟩ := own_block2 h h0
  rw [e] at e2
  cases e2
  have := hX _ k
  simp only at this
  omega
theorem JobsX.nil (X : Nat → Prop) (w : World) (f : Nat → Jb) : JobsX X w (.slice none 0 0) 0 f := ⟨jobs_none _ _ _ _ _ rfl, fun _ _ _ _ h => absurd h (Nat.lt_irrefl _)⟩
theorem JobsX.congr {X : Nat → Prop} {w : World} {v : Value} {n : Nat} {f g : Nat → Jb} (h : JobsX X w v n f) (e : ∀ j, j < n → f j = g j) : JobsX X w v n g := ⟨h.1.congr e, h.2⟩

/-- The program's leaf in a world: its blocks S, its jobs in none of X. -/
def Lf (S X : Nat → Prop) (B : Nat) (w : World) (A : Tab) (T : Nat → Tk) (v : Value) : Prop :=
  ∃ (sl : Nat → Value) (bl : Nat) (ST : Nat → Prop) (tv : Value), v = .pointer (some ⟨bl, 0, none⟩) ∧ w.cell? ⟨bl, 0, none⟩ = some tv ∧ PKTab ST B w A (tm T sl) tv ∧ (B ≤ bl ∧ ¬ ST bl) ∧ (S = fun x => x = bl ∨ ST x) ∧ ∀ i, JobsX X w (sl i) (T i).n (T i).f
theorem Lf.lt {S X : Nat → Prop} {B : Nat} {w : World} {A : Tab} {T : Nat → Tk} {v : Value} (h : Lf S X B w A T v) : ∀ x, S x → B ≤ x ∧ x < w.heap.size := by
  obtain ⟨sl, bl, ST, tv, rfl, hc, ht, ⟨hb, _⟩, rfl, _⟩ := h
  rintro x (rfl | hx)
  · exact ⟨hb, cell_lt hc⟩
  · exact ht.lt x hx
theorem Lf.keeps {S X R : Nat → Prop} {B : Nat} {w w' : World} {A : Tab} {T : Nat → Tk} {v : Value} (h : Lf S X B w A T v) (hk : Keeps R w w') (hd : ∀ x, S x → ¬ R x) (hR : ∀ x, R x → X x) : Lf S X B w' A T v := by
  obtain ⟨sl, bl, ST, tv, rfl, hc, ht, hb, rfl, hj⟩ := h
  exact ⟨sl, bl, ST, tv, rfl, (hk.cell (p := ⟨bl, 0, none⟩) (cell_lt hc) (hd bl (.inl rfl))).trans hc, ht.keeps hk (fun x hx => hd x (.inr hx)), hb, rfl, fun i => (hj i).keeps hk hR⟩
theorem Lf.below {S X : Nat → Prop} {B : Nat} {w w' : World} {A : Tab} {T : Nat → Tk} {v : Value} (h : Lf S X B w A T v) (hb : Below w.heap.size w w') : Lf S X B w' A T v :=
  h.keeps (R := fun _ => False) (Keeps.of_below hb) (fun _ _ k => k) (fun _ k => k.elim)
theorem Lf.mono {S X Y : Nat → Prop} {B : Nat} {w : World} {A : Tab} {T : Nat → Tk} {v : Value} (h : Lf S X B w A T v) (hy : ∀ x, x < w.heap.size → Y x → X x) : Lf S Y B w A T v := by
  obtain ⟨sl, bl, ST, tv, rfl, hc, ht, hb, rfl, hj⟩ := h
  exact ⟨sl, bl, ST, tv, rfl, hc, ht, hb, rfl, fun i => (hj i).mono hy⟩
theorem tm_upd (T : Nat → Tk) (sl : Nat → Value) (i : Nat) (p : Int) (s : Value) (n : Nat) (f : Nat → Jb) (k : Ac) (s0 : Value) : tm (upd T i ⟨p, s0, n, f, k⟩) (upd sl i s) = upd (tm T sl) i ⟨p, s, n, f, k⟩ := by
  funext j
  unfold tm upd
  by_cases e : j = i
  · simp [e]
  · simp [e]
theorem isSl_tm {X : Nat → Prop} {w : World} {T : Nat → Tk} {sl : Nat → Value} (h : ∀ i, JobsX X w (sl i) (T i).n (T i).f) : IsSl (tm T sl) := fun i => by
  obtain ⟨p, cap, e, _⟩ := (h i).1
  exact ⟨p, cap, e⟩
theorem fs_tm (t : Nat → Bool) (T : Nat → Tk) (sl : Nat → Value) : ∀ m, fsS t (tm T sl) m = fsS t T m
  | 0 => rfl
  | m + 1 => by
    have h := fs_tm t T sl m
    show (if t m = true ∧ 0 < (T m).n ∧ (fsS t (tm T sl) m < 0 ∨ (T m).p < (T (fsS t (tm T sl) m).toNat).p) then ((m : Nat) : Int) else fsS t (tm T sl) m) = _
    rw [h]
    rfl
/-- The leaf behind a step of its table: another task at a slot. -/
theorem Lf.act {S X : Nat → Prop} {B : Nat} {w0 w w' : World} {A' : Tab} {T : Nat → Tk} {v : Value} {sl : Nat → Value} {bl : Nat} {ST : Nat → Prop} {tv : Value} (hv : v = .pointer (some ⟨bl, 0, none⟩)) (hc : w0.cell? ⟨bl, 0, none⟩ = some tv) (hb : B ≤ bl ∧ ¬ ST bl) (hS : S = fun x => x = bl ∨ ST x) (hj : ∀ i, JobsX X w0 (sl i) (T i).n (T i).f) (hX : ∀ x, S x → X x)
    (h0 : Below w0.heap.size w0 w) {i : Nat} {p : Int} {s : Value} {n : Nat} {f : Nat → Jb} {k : Ac} (s0 : Value) (ht : PKTab ST B w' A' (upd (tm T sl) i ⟨p, s, n, f, k⟩) tv) (hk : Keeps ST w w') (hn : JobsX X w s n f) :
    Lf S X B w' A' (upd T i ⟨p, s0, n, f, k⟩) v ∧ Keeps S w0 w' := by
  subst hS
  have hk2 : Keeps ST w0 w' := (Keeps.of_below h0).trans hk
  refine ⟨⟨upd sl i s, bl, ST, tv, hv, (hk2.cell (p := ⟨bl, 0, none⟩) (cell_lt hc) hb.2).trans hc, by rw [tm_upd]; exact ht, hb, rfl, fun j => ?_⟩, hk2.mono fun _ h => .inr h⟩
  by_cases e : j = i
  · subst e
    rw [upd_same, upd_same]
    exact hn.keeps hk (fun x hx => hX x (.inr hx))
  · rw [upd_ne _ e, upd_ne _ e]
    exact (hj j).keeps hk2 (fun x hx => hX x (.inr hx))
end Go.Proofs.YtedgchafligndaaGreat
/- The program's leaf: Add, Drop; no condition but those that each row names. -/
namespace Go.Proofs.YtedgchafligndaaGreat
open Go.RowKit Tsk

/-- What is answered of a leaf that has turned. -/
def LfPost (S X : Nat → Prop) (B : Nat) (w : World) (A' : Tab) (T' : Nat → Tk) (v r : Value) (e : Ending) (w' : World) : Prop := e = .returned r ∧ Lf S X B w' A' T' v ∧ Keeps S w w'
/-- An account in a block of its own. -/
def HasA (W : World) (g : Nat) (k : Ac) : Prop := Has W g (.cells #[.int .i64 k.g, .int .i64 k.o, .int .i64 k.n, .int .i64 k.d, .int .i64 k.c, .int .i64 k.t] 30 (0, 0))
theorem HasA.below {W W' : World} {g : Nat} {k : Ac} (h : HasA W g k) (hb : Below W.heap.size W W') : HasA W' g k := (hb.block g (has_lt h)).trans h
theorem HasA.cells {W : World} {g : Nat} {k : Ac} (h : HasA W g k) :
    W.cell? ⟨g, 0, none⟩ = some (.int .i64 k.g) ∧ W.cell? ⟨g, 1, none⟩ = some (.int .i64 k.o) ∧ W.cell? ⟨g, 2, none⟩ = some (.int .i64 k.n) ∧ W.cell? ⟨g, 3, none⟩ = some (.int .i64 k.d) ∧ W.cell? ⟨g, 4, none⟩ = some (.int .i64 k.c) ∧ W.cell? ⟨g, 5, none⟩ = some (.int .i64 k.t) :=
  ⟨(has_cell h 0).trans rfl, (has_cell h 1).trans rfl, (has_cell h 2).trans rfl, (has_cell h 3).trans rfl, (has_cell h 4).trans rfl, (has_cell h 5).trans rfl⟩
theorem hasA_new (w : World) (k : Ac) : HasA (w.alloc (.cells #[.int .i64 k.g, .int .i64 k.o, .int .i64 k.n, .int .i64 k.d, .int .i64 k.c, .int .i64 k.t] 30)) w.heap.size k := has_new _ _ _ rfl
theorem has_keeps {S : Nat → Prop} {W W' : World} {g : Nat} {o : Obj} (h : Has W g o) (hk : Keeps S W W') (hn : ¬ S g) : Has W' g o := (hk.block g (has_lt h) hn).trans h
abbrev kV6 (k : Ac) : Value := .agg #[.int .i64 k.g, .int .i64 k.o, .int .i64 k.n, .int .i64 k.d, .int .i64 k.c, .int .i64 k.t]
theorem Lf.act2 {S X : Nat → Prop} {B : Nat} {w0 w' : World} {A' : Tab} {T : Nat → Tk} {v : Value} {sl : Nat → Value} {bl : Nat} {ST : Nat → Prop} {tv : Value} (hv : v = .pointer (some ⟨bl, 0, none⟩)) (hc : w0.cell? ⟨bl, 0, none⟩ = some tv) (hb : B ≤ bl ∧ ¬ ST bl) (hS : S = fun x => x = bl ∨ ST x) (hj : ∀ i, JobsX X w0 (sl i) (T i).n (T i).f) (hX : ∀ x, S x → X x)
    {i : Nat} {p : Int} {s : Value} {n : Nat} {f : Nat → Jb} {k : Ac} (s0 : Value) (ht : PKTab ST B w' A' (upd (tm T sl) i ⟨p, s, n, f, k⟩) tv) (hk2 : Keeps ST w0 w') (hn : JobsX X w' s n f) :
    Lf S X B w' A' (upd T i ⟨p, s0, n, f, k⟩) v ∧ Keeps S w0 w' := by
  subst hS
  refine ⟨⟨upd sl i s, bl, ST, tv, hv, (hk2.cell (p := ⟨bl, 0, none⟩) (cell_lt hc) hb.2).trans hc, by rw [tm_upd]; exact ht, hb, rfl, fun j => ?_⟩, hk2.mono fun _ h => .inr h⟩
  by_cases e : j = i
  · subst e
    rw [upd_same, upd_same]
    exact hn
  · rw [upd_ne _ e, upd_ne _ e]
    exact (hj j).keeps hk2 (fun x hx => hX x (.inr hx))
theorem below6 {B g : Nat} {w W : World} (h : Below B w W) (hg : B ≤ g) (v0 v1 v2 v3 v4 v5 : Value) : Below B w ((((((W.setCell ⟨g, 0, none⟩ v0).setCell ⟨g, 1, none⟩ v1).setCell ⟨g, 2, none⟩ v2).setCell ⟨g, 3, none⟩ v3).setCell ⟨g, 4, none⟩ v4).setCell ⟨g, 5, none⟩ v5) :=
  below_low (below_low (below_low (below_low (below_low (below_low h _ _ hg) _ _ hg) _ _ hg) _ _ hg) _ _ hg) _ _ hg
theorem keeps6 {S : Nat → Prop} {g : Nat} {w W : World} (h : Keeps S w W) (hg : S g ∨ w.heap.size ≤ g) (v0 v1 v2 v3 v4 v5 : Value) : Keeps S w ((((((W.setCell ⟨g, 0, none⟩ v0).setCell ⟨g, 1, none⟩ v1).setCell ⟨g, 2, none⟩ v2).setCell ⟨g, 3, none⟩ v3).setCell ⟨g, 4, none⟩ v4).setCell ⟨g, 5, none⟩ v5) :=
  (((((h.setCell _ _ hg).setCell _ _ hg).setCell _ _ hg).setCell _ _ hg).setCell _ _ hg).setCell _ _ hg
end Go.Proofs.YtedgchafligndaaGreat
/- The program's leaf: twin, mark, New, All, Task; no condition but those that each row names. -/
namespace Go.Proofs.YtedgchafligndaaGreat
open Go.RowKit Tsk

theorem own_low8 {B e z n g : Nat} {w : World} {v : Value} {xs : List Value} (h : w.ownsRow B e z v n xs) (hg : g < B) (v0 v1 v2 v3 v4 v5 v6 v7 : Value) : ((((((((w.setCell ⟨g, 0, none⟩ v0).setCell ⟨g, 1, none⟩ v1).setCell ⟨g, 2, none⟩ v2).setCell ⟨g, 3, none⟩ v3).setCell ⟨g, 4, none⟩ v4).setCell ⟨g, 5, none⟩ v5).setCell ⟨g, 6, none⟩ v6).setCell ⟨g, 7, none⟩ v7).ownsRow B e z v n xs :=
  own_low (own_low (own_low (own_low (own_low (own_low (own_low (own_low h _ _ hg) _ _ hg) _ _ hg) _ _ hg) _ _ hg) _ _ hg) _ _ hg) _ _ hg
/-- A new leaf. -/
def NewLf (w : World) (e : Ending) (w' : World) : Prop := ∃ S v, e = .returned v ∧ (∀ X, Lf S X w.heap.size w' (Tab.new 2 8) (fun _ => tk0) v) ∧ Below w.heap.size w w'
/-- What Task answers. -/
def TaskPost (X : Nat → Prop) (w : World) (A : Tab) (T : Nat → Tk) (x : Int) (e : Ending) (w' : World) : Prop :=
  (A.find x = none → e = .returned (.tuple #[zT, errV 20]) ∧ Below w.heap.size w w') ∧
  ∀ i, A.find x = some i → ∃ s, e = .returned (.tuple #[tV (T i).p s (T i).k, .nilIface]) ∧ JobsX X w' s (T i).n (T i).f ∧ Below w.heap.size w w'
end Go.Proofs.YtedgchafligndaaGreat
/- The program's leaf: Push; no condition but those that each row names. -/
namespace Go.Proofs.YtedgchafligndaaGreat
open Go.RowKit Tsk

/-- What stands behind Push's call of task.Push. -/
def PushBox (w : World) (W1 : World) (b1 : Nat) (tp : Int) (sv : Value) (k : Ac) (jl jc ja jd : Int) : Prop := Below w.heap.size w W1 ∧ HasT W1 b1 tp sv k ∧ HasJ W1 w.heap.size ⟨jl, jc, ja, jd⟩ ∧ w.heap.size < b1
end Go.Proofs.YtedgchafligndaaGreat
/- The program's leaf: list, Ready; no condition but those that each row names. -/
namespace Go.Proofs.YtedgchafligndaaGreat
open Go.RowKit Tsk

/-- The tasks that are told, ahead of place k. -/
def listF (A : Tab) (T : Nat → Tk) (k : Nat) : Nat → Tk := fun j => if j < k then T (A.idxs.getD j 0) else tk0
theorem listF_0 (A : Tab) (T : Nat → Tk) : listF A T 0 = fun _ => tk0 := by funext j; unfold listF; rw [if_neg (by omega)]
theorem listF_s (A : Tab) (T : Nat → Tk) (k : Nat) : listF A T (k + 1) = upd (listF A T k) k (T (A.idxs.getD k 0)) := by
  funext j
  unfold upd
  by_cases e : j = k
  · subst e; rw [if_pos rfl]; unfold listF; rw [if_pos (by omega)]
  · rw [if_neg e]
    unfold listF
    have : (j < k + 1) = (j < k) := propext ⟨fun h => by omega, fun h => by omega⟩
    simp only [this]
theorem idxs_at {A : Tab} {j : Nat} (h : j < A.idxs.length) : A.idxs.getD j 0 < A.gens.length ∧ A.t (A.idxs.getD j 0) = true := idxTo_at (t := A.t) (m := A.n) h
theorem all_at {A : Tab} {j : Nat} (h : j < A.idxs.length) : (ints A.all)[j]? = some (.int .i64 (A.hd (A.idxs.getD j 0))) := by
  unfold Tab.all ints
  simp [h, List.getD_eq_getElem?_getD]
/-- A row of the tasks that are told. -/
def ListPost (w : World) (A : Tab) (TT : Nat → Tk) (e : Ending) (w' : World) : Prop := ∃ g c, e = .returned (.slice (some ⟨g, 0, none⟩) A.idxs.length c) ∧ w'.ownsRow w.heap.size KT 8 (.slice (some ⟨g, 0, none⟩) A.idxs.length c) A.idxs.length (tkL (listF A TT A.idxs.length) A.idxs.length) ∧ Below w.heap.size w w'
theorem listF_tm (A : Tab) (T : Nat → Tk) (sl : Nat → Value) (j : Nat) (h : j < A.idxs.length) : (listF A (tm T sl) A.idxs.length j).n = (T (A.idxs.getD j 0)).n ∧ (listF A (tm T sl) A.idxs.length j).p = (T (A.idxs.getD j 0)).p := by
  unfold listF; rw [if_pos h]; exact ⟨rfl, rfl⟩
/-- The list as a slice of tasks. -/
theorem list_tasks {X : Nat → Prop} {w w' : World} {B m : Nat} {A : Tab} {T : Nat → Tk} {sl : Nat → Value} {v : Value} (hj : ∀ i, JobsX X w (sl i) (T i).n (T i).f) (hb : Below w.heap.size w w') (hm : m ≤ 4096) (h : w'.ownsRow B KT 8 v m (tkL (listF A (tm T sl) m) m)) : Tasks w' v m (listF A (tm T sl) m) :=
  own_tasks h (by omega) fun j hj2 => by
    unfold listF
    rw [if_pos hj2]
    exact (hj _).1.below hb
end Go.Proofs.YtedgchafligndaaGreat
/- The program's leaf: Offer; no condition but those that each row names. -/
namespace Go.Proofs.YtedgchafligndaaGreat
open Go.RowKit Tsk

theorem find_zero {A : Tab} (h : A.Good) : A.find 0 = none := by
  cases hf : A.find 0 with
  | none => rfl
  | some i =>
    obtain ⟨h1, h2, h3⟩ := find_inv hf
    have h4 := (hd_parts h h1 h2).2.1
    rw [h3] at h4
    have h5 : kOf 0 = 0 := by decide
    have := h.k1
    omega
end Go.Proofs.YtedgchafligndaaGreat
