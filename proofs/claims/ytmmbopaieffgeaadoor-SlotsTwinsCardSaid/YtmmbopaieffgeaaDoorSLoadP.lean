/- The program's Load of a table: refused where the document refuses, else the table of the slots and things; no condition but those that each row names. -/
import Derived.Test.YtmmbopaieffgeaaDoorSAllP
import Derived.StillTailTactics
namespace Go.Proofs.YtmmbopaieffgeaaDoor
open Go.RowKit

/-- copy over the whole of a row of the call's own. -/
theorem wpList_copy_row {P : Program} {w : World} {ops : Array Oper} {rest : List Oper} {o : Oper} {a : Act} {Q : Exit → Act → World → Prop} (hgd : o.guard = none) (d s : Operand) (dT sT : TypeId)
    (ho : o.op = .call { callee := .builtin .copy, args := #[d, s], argTypes := #[dT, sT] }) (elem : TypeId) (hu : P.underlying dT = some (.slice elem)) (hsz : (P.info? elem).map (·.size) = some 1)
    (B g n cap : Nat) (xs : List Value) (hown : w.ownsRow B elem 1 (.slice (some ⟨g, 0, none⟩) n cap) n xs) (ad : Addr) (sCap : Nat) (hd : a.eval d = .slice (some ⟨g, 0, none⟩) n cap) (hs : a.eval s = .slice (some ad) n sCap)
    (cs : List Value) (hn : cs.length = n) (hsrc : ∀ j v, cs[j]? = some v → w.cell? (ad.add j) = some v) (h1 : ∀ v ∈ cs, v.oneCell' = true)
    (h : ∀ w', w'.ownsRow B elem 1 (.slice (some ⟨g, 0, none⟩) n cap) n cs → Keeps (fun x => x = g) w w' → wpList P ops Q rest (a.put o.dst (goInt n)) w') : wpList P ops Q (o :: rest) a w := by
  rcases hown.2 with ⟨e, _⟩ | ⟨g', cap', cur, e, hb, hg, hnc, hcm, hcs, htake⟩
  · simp at e
  · simp only [Value.slice.injEq, Option.some.injEq, Addr.mk.injEq, and_true, true_and] at e
    obtain ⟨rfl, rfl⟩ := e
    refine wpList_copy_own hgd d s dT sT ho elem hu hsz g 0 n cap ad n sCap hd hs cur elem hg cs (by rw [hn]; exact (Nat.min_self n).symm) hsrc (by omega) h1 ?_
    rw [hn]
    refine h _ ⟨by omega, .inr ⟨g, cap, _, rfl, hb, setRow_heap w g cur _ elem (0, 0) hg, hnc, hcm, ?_, ?_⟩⟩ ⟨rfl, rfl, rfl, by simp [World.setRow], fun b _ hne => setRow_other w g b _ hne⟩
    · simp; omega
    · simp [hn]

/-- The things of the slots ahead of k. -/
def fillTo (n k : Nat) (taken : List Bool) (things : List Int) : List Int := (List.range n).map fun i => if i < k ∧ taken.getD i false = true then things.getD (rank taken i) 0 else 0
theorem fillTo_0 (n : Nat) (taken : List Bool) (things : List Int) : fillTo n 0 taken things = List.replicate n 0 := by
  unfold fillTo
  apply List.ext_getElem
  · simp
  · intro i h1 h2; simp
theorem fillTo_n (n : Nat) (taken : List Bool) (things : List Int) : fillTo n n taken things = fillL n taken things := by
  unfold fillTo fillL
  apply List.map_congr_left
  intro i hi
  simp [List.mem_range.1 hi]
theorem fillTo_len (n k : Nat) (taken : List Bool) (things : List Int) : (fillTo n k taken things).length = n := by simp [fillTo]
theorem fillTo_no {n k : Nat} {taken : List Bool} {things : List Int} (h : taken.getD k false = false) : fillTo n (k + 1) taken things = fillTo n k taken things := by
  unfold fillTo
  apply List.map_congr_left
  intro i _
  by_cases e : i = k
  · subst e
    rw [if_neg (fun c => by rw [h] at c; cases c.2), if_neg (fun c => by omega)]
  · have : (i < k + 1) = (i < k) := propext ⟨fun h => by omega, fun h => by omega⟩
    simp only [this]
theorem fillTo_yes {n k : Nat} {taken : List Bool} {things : List Int} (h : taken.getD k false = true) : fillTo n (k + 1) taken things = (fillTo n k taken things).set k (things.getD (rank taken k) 0) := by
  apply List.ext_getElem?
  intro i
  have e1 : ∀ m, (fillTo n m taken things)[i]? = if i < n then some (if i < m ∧ taken.getD i false = true then things.getD (rank taken i) 0 else 0) else none := fun m => by
    unfold fillTo
    rw [List.getElem?_map]
    by_cases hi : i < n
    · rw [if_pos hi, List.getElem?_range hi]; rfl
    · rw [if_neg hi, List.getElem?_eq_none (by simpa using hi)]; rfl
  rw [List.getElem?_set, fillTo_len, e1, e1]
  by_cases hi : i < n
  · rw [if_pos hi, if_pos hi]
    by_cases e : k = i
    · subst e
      rw [if_pos rfl, if_pos hi, if_pos ⟨by omega, h⟩]
    · rw [if_neg e]
      have : (i < k + 1) = (i < k) := propext ⟨fun h => by omega, fun h => by omega⟩
      simp only [this]
  · rw [if_neg hi, if_neg hi]
    split
    · subst_vars; rw [if_neg hi]
    · rfl

set_option maxHeartbeats 1000000 in
set_option maxRecDepth 100000 in
theorem pload_no1 (S : Nat → Prop) (kind : Int) (gens : List Int) (v x y : Value) (w : World) (hv : Lst S w v (ints gens)) (h : ¬ (1 ≤ kind ∧ kind ≤ 3 ∧ 1 ≤ gens.length ∧ gens.length ≤ 4096)) :
    Calls Tryd.prog 14 #[.int .i64 kind, v, x, y] w fun e w' => e = .returned (.tuple #[.pointer none, .iface 64 (.int .i64 1)]) ∧ w = w' := by
  obtain ⟨p, cp, rfl, hm, hg⟩ := hv
  have e1 := ints_len gens
  rw [e1] at hm ⊢
  have HN := Lib.hid (fun w => pnew_no kind gens.length w (by omega))
  clear h hg e1
  go_enter Tryd.func14, Tryd.ntmps14
  go_wp2_with fail
  refine (HN.out _).mono ?_
  rintro e w1 ⟨rfl, rfl⟩
  go_wp2_with fail
  go_ret2
  exact ⟨rfl, rfl⟩

set_option maxHeartbeats 2000000 in
set_option maxRecDepth 100000 in
theorem pload_no2 (S : Nat → Prop) (kind : Int) (gens : List Int) (taken : List Bool) (things : List Int) (v x y : Value) (w : World) (hv : Lst S w v (ints gens)) (hx : Lst S w x (bools taken)) (hy : Lst S w y (ints things))
    (h1 : 1 ≤ kind) (h3 : kind ≤ 3) (n1 : 1 ≤ gens.length) (n4 : gens.length ≤ 4096) (h : ¬ ((taken.length = gens.length ∧ standB gens taken gens.length) ∧ things.length = rank taken taken.length)) :
    Calls Tryd.prog 14 #[.int .i64 kind, v, x, y] w fun e w' => e = .returned (.tuple #[.pointer none, .iface 64 (.int .i64 270)]) ∧ Below w.heap.size w w' := by
  have HN := Lib.hid (fun w => pnew_ok kind gens.length w h1 h3 n1 n4)
  have HSN := Lib.hid (fun W (hb : Below w.heap.size w W) => stand_no S gens taken v x W (hv.below hb) (hx.below hb))
  have HSY := Lib.hid (fun W (hb : Below w.heap.size w W) => stand_yes S gens taken v x W (hv.below hb) (hx.below hb))
  have HC := Lib.hid (fun W (hb : Below w.heap.size w W) => count_any S taken x W (hx.below hb))
  obtain ⟨p, cp, rfl, hm, hg⟩ := hv
  obtain ⟨q, cq, rfl, hm2, ht⟩ := hx
  obtain ⟨r, cr, rfl, hm3, hy⟩ := hy
  have e1 := ints_len gens
  have e2 := bools_len taken
  have e3 := ints_len things
  rw [e1] at hm HSN HSY ⊢
  rw [e2] at hm2 HSN HSY HC ⊢
  rw [e3] at hm3 ⊢
  clear hg ht hy e1 e2 e3
  by_cases hs : taken.length = gens.length ∧ standB gens taken gens.length
  · have hne : ¬ (things.length = rank taken taken.length) := fun k => h ⟨hs, k⟩
    have hb1 : decide (things.length = rank taken taken.length) = false := decide_eq_false hne
    have HS := Lib.hid hs
    have hrk := rank_le taken taken.length
    clear h hs
    generalize rank taken taken.length = rk at *
    go_enter Tryd.func14, Tryd.ntmps14
    go_wp2_with fail
    refine (HN.out _).mono ?_
    rintro e w1 ⟨ST, vt, rfl, hpt, hb⟩
    clear hpt
    go_wp2_with fail
    refine (HSY.out _ hb HS.out.1 HS.out.2).mono ?_
    rintro e w2 ⟨rfl, rfl⟩
    go_wp2_with fail
    refine (HC.out _ hb).mono ?_
    rintro e w2 ⟨rfl, rfl⟩
    go_wp2_with fail
    go_ret2
    exact ⟨rfl, hb⟩
  · have HS := Lib.hid hs
    clear h hs
    go_enter Tryd.func14, Tryd.ntmps14
    go_wp2_with fail
    refine (HN.out _).mono ?_
    rintro e w1 ⟨ST, vt, rfl, hpt, hb⟩
    clear hpt
    go_wp2_with fail
    refine (HSN.out _ hb HS.out).mono ?_
    rintro e w2 ⟨rfl, rfl⟩
    go_wp2_with fail
    go_ret2
    exact ⟨rfl, hb⟩

theorem own_of_keeps {S : Nat → Prop} {B : Nat} {w w' : World} {A : Tab} {b g1 c1 g2 c2 g3 c3 : Nat} (h : PT B w A b g1 c1 g2 c2 g3 c3) (hk : Keeps S w w') (h0 : ¬ S b) : w'.cell? ⟨b, 0, none⟩ = w.cell? ⟨b, 0, none⟩ ∧ w'.cell? ⟨b, 1, none⟩ = w.cell? ⟨b, 1, none⟩ ∧ w'.cell? ⟨b, 2, none⟩ = w.cell? ⟨b, 2, none⟩ ∧ w'.cell? ⟨b, 3, none⟩ = w.cell? ⟨b, 3, none⟩ :=
  have lb := h.lts.1
  ⟨hk.cell (p := ⟨b, 0, none⟩) lb h0, hk.cell (p := ⟨b, 1, none⟩) lb h0, hk.cell (p := ⟨b, 2, none⟩) lb h0, hk.cell (p := ⟨b, 3, none⟩) lb h0⟩
theorem PT.copyG {B : Nat} {w w' : World} {A : Tab} {b g1 c1 g2 c2 g3 c3 : Nat} (h : PT B w A b g1 c1 g2 c2 g3 c3) (l : List Int) (hl : l.length = A.gens.length) (ho : w'.ownsRow B 3 1 (.slice (some ⟨g1, 0, none⟩) A.gens.length c1) A.gens.length (ints l)) (hk : Keeps (fun x => x = g1) w w') :
    PT B w' { A with gens := l } b g1 c1 g2 c2 g3 c3 := by
  obtain ⟨e0, e1, e2, e3⟩ := own_of_keeps h hk h.n1
  refine ⟨e0.trans h.f0, e1.trans (by simp only [hl]; exact h.f1), e2.trans h.f2, e3.trans h.f3, ⟨by simp only [hl]; exact ho, own_keeps h.own.t hk (fun g e => by simp [Value.ownBlock] at e; subst e; exact fun e => h.own.n12 e.symm), own_keeps h.own.l hk (fun g e => by simp [Value.ownBlock] at e; subst e; exact fun e => h.own.n13 e.symm), h.own.n12, h.own.n13, h.own.n23⟩, h.hb, h.n1, h.n2, h.n3⟩
theorem PT.copyT {B : Nat} {w w' : World} {A : Tab} {b g1 c1 g2 c2 g3 c3 : Nat} (h : PT B w A b g1 c1 g2 c2 g3 c3) (l : List Bool) (hl : l.length = A.taken.length) (ho : w'.ownsRow B 4 1 (.slice (some ⟨g2, 0, none⟩) A.taken.length c2) A.taken.length (bools l)) (hk : Keeps (fun x => x = g2) w w') :
    PT B w' { A with taken := l } b g1 c1 g2 c2 g3 c3 := by
  obtain ⟨e0, e1, e2, e3⟩ := own_of_keeps h hk h.n2
  refine ⟨e0.trans h.f0, e1.trans h.f1, e2.trans (by simp only [hl]; exact h.f2), e3.trans h.f3, ⟨own_keeps h.own.g hk (fun g e => by simp [Value.ownBlock] at e; subst e; exact h.own.n12), by simp only [hl]; exact ho, own_keeps h.own.l hk (fun g e => by simp [Value.ownBlock] at e; subst e; exact fun e => h.own.n23 e.symm), h.own.n12, h.own.n13, h.own.n23⟩, h.hb, h.n1, h.n2, h.n3⟩

/-- The table while the things are laid. -/
def loadTo (kind : Int) (gens : List Int) (taken : List Bool) (things : List Int) (k : Nat) : Tab := ⟨kind, gens, taken, fillTo gens.length k taken things⟩

set_option maxHeartbeats 4000000 in
set_option maxRecDepth 100000 in
theorem pload_ok (S : Nat → Prop) (kind : Int) (gens : List Int) (taken : List Bool) (things : List Int) (v x y : Value) (w : World) (hv : Lst S w v (ints gens)) (hx : Lst S w x (bools taken)) (hy : Lst S w y (ints things))
    (h1 : 1 ≤ kind) (h3 : kind ≤ 3) (n1 : 1 ≤ gens.length) (n4 : gens.length ≤ 4096) (hlt : taken.length = gens.length) (ho : standB gens taken gens.length) (hr : things.length = rank taken taken.length) :
    Calls Tryd.prog 14 #[.int .i64 kind, v, x, y] w fun e w' => ∃ S v, e = .returned (.tuple #[v, .nilIface]) ∧ PTab S w.heap.size w' (Tab.load kind gens taken things) v ∧ Below w.heap.size w w' := by
  have HN := Lib.hid (fun w => pnew_ok kind gens.length w h1 h3 n1 n4)
  have HSY := Lib.hid (fun W (hb : Below w.heap.size w W) => stand_yes S gens taken v x W (hv.below hb) (hx.below hb) hlt ho)
  have HC := Lib.hid (fun W (hb : Below w.heap.size w W) => count_any S taken x W (hx.below hb))
  obtain ⟨p, cp, rfl, hm, hg⟩ := hv
  obtain ⟨q, cq, rfl, hm2, ht⟩ := hx
  obtain ⟨r, cr, rfl, hm3, hy⟩ := hy
  have e1 := ints_len gens
  have e2 := bools_len taken
  have e3 := ints_len things
  rw [e1] at hm HSY ⊢
  rw [e2] at hm2 HSY HC ⊢
  rw [e3] at hm3 ⊢
  obtain ⟨b1, o1, rfl, _, hd1⟩ := hg 0 _ (ints_at (by omega))
  obtain ⟨b2, o2, rfl, _, hd2⟩ := ht 0 _ (bools_at (by omega))
  have k1 := cell_lt hd1
  have k2 := cell_lt hd2
  simp only at k1 k2
  have HG := Lib.hid (show ∀ j u, (ints gens)[j]? = some u → w.cell? ⟨b1, o1 + j, none⟩ = some u from fun j u hu => by
    obtain ⟨b, off, e, _, hc⟩ := hg j u hu
    injection e with e
    injection e with e1 e2
    subst e1 e2; exact hc)
  have HT := Lib.hid (show ∀ j u, (bools taken)[j]? = some u → w.cell? ⟨b2, o2 + j, none⟩ = some u from fun j u hu => by
    obtain ⟨b, off, e, _, hc⟩ := ht j u hu
    injection e with e
    injection e with e1 e2
    subst e1 e2; exact hc)
  have HY := Lib.hid hy
  have HR := Lib.hid hr
  have E1 := Lib.hid e1
  have E2 := Lib.hid e2
  have HLT := Lib.hid hlt
  rw [← hr] at HC
  rw [hlt] at HSY HC ⊢
  clear hg ht hy hr ho e1 e2 e3 hlt hd1 hd2 hm2
  go_enter Tryd.func14, Tryd.ntmps14
  go_wp2_with fail
  refine (HN.out _).mono ?_
  rintro e w1 ⟨ST, vt, rfl, ⟨b, g1, c1, g2, c2, g3, c3, rfl, hpt, hST⟩, hb⟩
  clear hST
  have f1 := hpt.f1
  have f2 := hpt.f2
  rw [show (Tab.new kind gens.length).gens.length = gens.length by simp [Tab.new]] at f1
  rw [show (Tab.new kind gens.length).taken.length = gens.length by simp [Tab.new]] at f2
  have hog := hpt.own.g
  rw [show (Tab.new kind gens.length).gens.length = gens.length by simp [Tab.new]] at hog
  have HOG := Lib.hid hog
  have HPT := Lib.hid hpt
  clear hpt hog
  go_wp2_with fail
  refine (HSY.out _ hb).mono ?_
  rintro e w2 ⟨rfl, rfl⟩
  go_wp2_with fail
  refine (HC.out _ hb).mono ?_
  rintro e w2 ⟨rfl, rfl⟩
  go_wp2_with (with_reducible refine wpList_copy_row rfl (.tmp 39) (.tmp 40) 27 27 rfl 3 Tryd.underlying27 Tryd.size3 w.heap.size g1 gens.length c1 _ HOG.out ⟨b1, o1, none⟩ cp rfl rfl (ints gens) E1.out ?a1 ints_one ?_)
  case a1 =>
    intro j u hu
    rw [addr_plus]
    exact (hb.cell (p := ⟨b1, o1 + j, none⟩) k1).trans (HG.out j u hu)
  intro w2 ho2 hk2
  have hl1 := (HPT.out.lts.2.1).1
  have hl2 := (HPT.out.lts.2.2.1).1
  have hb2 : Below w.heap.size w w2 := below_keeps hb hk2 (fun x e => by omega)
  have hpt2 := HPT.out.copyG gens (by simp [Tab.new]) (by rw [show (Tab.new kind gens.length).gens.length = gens.length by simp [Tab.new]]; exact ho2) hk2
  have HPT2 := Lib.hid hpt2
  have g2' := hpt2.f2
  simp only at g2'
  rw [show (Tab.new kind gens.length).taken.length = gens.length by simp [Tab.new]] at g2'
  have hot := hpt2.own.t
  simp only at hot
  rw [show (Tab.new kind gens.length).taken.length = gens.length by simp [Tab.new]] at hot
  have HOT := Lib.hid hot
  clear ho2 hk2 hpt2 hot f1 f2
  have E2' := Lib.hid (E2.out.trans HLT.out)
  go_wp2_with (with_reducible refine wpList_copy_row rfl (.tmp 45) (.tmp 46) 28 28 rfl 4 Tryd.underlying28 Tryd.size4 w.heap.size g2 gens.length c2 _ HOT.out ⟨b2, o2, none⟩ cq rfl rfl (bools taken) E2'.out ?a2 bools_one ?_)
  case a2 =>
    intro j u hu
    rw [addr_plus]
    exact (hb2.cell (p := ⟨b2, o2 + j, none⟩) k2).trans (HT.out j u hu)
  intro w3 ho3 hk3
  have hb3 : Below w.heap.size w w3 := below_keeps hb2 hk3 (fun x e => by omega)
  have hpt3 := HPT2.out.copyT taken (by simp [Tab.new, HLT.out]) (by simp only; rw [show (Tab.new kind gens.length).taken.length = gens.length by simp [Tab.new]]; exact ho3) hk3
  have HPT3 := Lib.hid (show PT w.heap.size w3 (loadTo kind gens taken things 0) b g1 c1 g2 c2 g3 c3 by unfold loadTo; rw [fillTo_0]; exact hpt3)
  have f3 := HPT3.out.f3
  rw [show (loadTo kind gens taken things 0).list.length = gens.length from fillTo_len _ _ _ _] at f3
  clear ho3 hk3 hpt3 g2' hb hb2
  go_wp2_with fail
  go_loopw [12, 13, 53] (fun gv _ i wr => ∃ k : Nat, k ≤ gens.length ∧ i = .int .i64 k ∧ gv = .int .i64 (rank taken k : Nat) ∧ Hid (PT w.heap.size wr (loadTo kind gens taken things k) b g1 c1 g2 c2 g3 c3) ∧ Below w.heap.size w wr) (fun _ _ i _ => gens.length - (intOf i).toNat)
  case atStart => exact ⟨0, Nat.zero_le _, rfl, rfl, HPT3, hb3⟩
  case round =>
    obtain ⟨k, hk, rfl, rfl, HK, hbk⟩ := hrel
    by_cases hlt : k < gens.length
    · have q : wr.cell? ⟨b2, o2 + k, none⟩ = some (.bool (taken.getD k false)) := (hbk.cell (p := ⟨b2, o2 + k, none⟩) k2).trans (HT.out k _ (bools_at (by have := HLT.out; omega)))
      have z0 : (0 : Int) ≤ (k : Int) := by omega
      have z1 : (k : Int) < (gens.length : Int) := by omega
      have hrk := rank_le taken k
      cases htk : taken.getD k false with
      | true =>
        rw [htk] at q
        have hs := rank_succ taken k
        rw [if_pos htk] at hs
        have hmono := rank_mono taken (i := k + 1) (j := taken.length) (by have := HLT.out; omega)
        have hrl : rank taken k < things.length := by have := HR.out; omega
        obtain ⟨b3, o3, rfl, _, hd3⟩ := HY.out (rank taken k) _ (ints_at hrl)
        have q2 : wr.cell? ⟨b3, o3 + rank taken k, none⟩ = some (.int .i64 (things.getD (rank taken k) 0)) := (hbk.cell (p := ⟨b3, o3 + rank taken k, none⟩) (cell_lt hd3)).trans hd3
        have f3' := HK.out.f3
        rw [show (loadTo kind gens taken things k).list.length = gens.length from fillTo_len _ _ _ _] at f3'
        have ho := HK.out.own.l
        rw [show (loadTo kind gens taken things k).list.length = gens.length from fillTo_len _ _ _ _] at ho
        have q3 := ho.cellAt k (by omega)
        rw [ints_at (by rw [show (loadTo kind gens taken things k).list.length = gens.length from fillTo_len _ _ _ _]; exact hlt)] at q3
        have q4 := ho.frozenAt k
        have z2 : (0 : Int) ≤ ((rank taken k : Nat) : Int) := by omega
        have z3 : ((rank taken k : Nat) : Int) < (things.length : Int) := by omega
        have HF := Lib.hid (fillTo_yes (n := gens.length) (things := things) htk)
        have HSS := Lib.hid hs
        clear hd3 ho hs htk hmono f3
        generalize things.getD (rank taken k) 0 = th at *
        generalize hrn : rank taken k = rn at *
        have HRN := Lib.hid hrn
        clear hrn
        go_upto_region 13 with fail
        go_cut [] (fun wx => Hid (PT w.heap.size wx (loadTo kind gens taken things (k + 1)) b g1 c1 g2 c2 g3 c3) ∧ Below w.heap.size w wx)
        case first =>
          go_still_tail 10, (by kernel_rfl)
          change wpList _ _ _ _ _ wr.drew
          go_wp2_with fail
          go_meet
          refine ⟨Lib.hid ?_, ?_⟩
          · unfold loadTo
            rw [HF.out]
            exact (HK.out.list k th).drew
          · exact below_drew (hbk.setCell (HK.out.lts.2.2.2).1 _)
        case rest =>
          obtain ⟨K1, K2⟩ := hcut
          clear q q2 q3 q4 f3' hbk
          go_wp2_with fail
          go_roundw
          case rel => exact ⟨k + 1, by omega, by go_num, by rw [HSS.out]; go_num, K1, K2⟩
          case measure => simp [intOf]; omega
      | false =>
        rw [htk] at q
        have hs := rank_succ taken k
        rw [if_neg (by rw [htk]; simp)] at hs
        have HF := Lib.hid (fillTo_no (n := gens.length) (things := things) htk)
        have HSS := Lib.hid hs
        clear htk hs f3
        go_wp2_with fail
        go_roundw
        case rel => exact ⟨k + 1, by omega, by go_num, by rw [HSS.out]; rfl, Lib.hid (by unfold loadTo; rw [HF.out]; exact HK.out), hbk⟩
        case measure => simp [intOf]; omega
    · have hk' : k = gens.length := by omega
      have HE := Lib.hid (show loadTo kind gens taken things k = Tab.load kind gens taken things by rw [hk']; unfold loadTo; rw [fillTo_n]; rfl)
      clear hk'
      go_wp2_with fail
      go_ret2
      exact ⟨_, _, rfl, ⟨b, g1, c1, g2, c2, g3, c3, rfl, by rw [← HE.out]; exact HK.out, rfl⟩, hbk⟩
end Go.Proofs.YtmmbopaieffgeaaDoor
