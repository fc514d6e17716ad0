/- The walk of the law SlotsOnce: no handle is given twice, what was dropped is not good again; it writes nothing that was there. -/
import Derived.Test.YtmmbopaieffgeaaDoorSLawPlays
import Derived.Test.YtmmbopaieffgeaaDoorSOnce
import Derived.IntWalk
import Derived.Deep.AppendLies
namespace Go.Proofs.YtmmbopaieffgeaaDoor
open Go.RowKit

/-- While the law plays: the table, what was given, what went. -/
structure Once (S : Nat → Prop) (B Bg : Nat) (w0 w : World) (A : Tab) (v gv dv : Value) (G D : List Int) : Prop where
  good : A.Good
  pt : PTab S B w A v
  hg : w.ownsRow Bg 40 1 gv G.length (ints G)
  hd : w.ownsRow Bg 40 1 dv D.length (ints D)
  ne : ∀ g, gv.ownBlock = some g → dv.ownBlock ≠ some g
  old : ∀ x ∈ G, Old A x
  gone : ∀ x ∈ D, Gone A x
  cnt : A.idxs.length + D.length = G.length
  kp : Below w0.heap.size w0 w
  bd : ∀ y, S y → w0.heap.size ≤ y ∧ y < Bg
  bg : Bg ≤ w.heap.size
theorem Once.start {S : Nat → Prop} {w0 w : World} {A : Tab} {v : Value} (hA : A.Good) (hp : PTab S w0.heap.size w A v) (hi : A.idxs.length = 0) (hb : Below w0.heap.size w0 w) : Once S w0.heap.size w.heap.size w0 w A v (.slice none 0 0) (.slice none 0 0) [] [] :=
  ⟨hA, hp, World.ownsRow_nil _ _ _ _, World.ownsRow_nil _ _ _ _, fun _ e => by simp [Value.ownBlock] at e, fun _ h => by simp at h, fun _ h => by simp at h, by simpa using hi, hb, fun y hy => hp.lt y hy, Nat.le_refl _⟩
/-- The table turns, the lists stay. -/
theorem Once.turn {S : Nat → Prop} {B Bg : Nat} {w0 w W : World} {A A' : Tab} {v gv dv : Value} {G D : List Int} (h : Once S B Bg w0 w A v gv dv G D) (hk : Keeps S w W) (hA : A'.Good) (hp : PTab S B W A' v) (ho : ∀ x ∈ G, Old A' x) (hg : ∀ x ∈ D, Gone A' x) :
    A'.Good ∧ PTab S B W A' v ∧ W.ownsRow Bg 40 1 gv G.length (ints G) ∧ W.ownsRow Bg 40 1 dv D.length (ints D) ∧ (∀ x ∈ G, Old A' x) ∧ (∀ x ∈ D, Gone A' x) ∧ Below w0.heap.size w0 W ∧ Bg ≤ W.heap.size :=
  ⟨hA, hp, own_keeps h.hg hk (fun g e c => by have := (h.hg.lt g e).1; have := (h.bd g c).2; omega), own_keeps h.hd hk (fun g e c => by have := (h.hd.lt g e).1; have := (h.bd g c).2; omega), ho, hg, below_keeps h.kp hk (fun y hy => (h.bd y hy).1), Nat.le_trans h.bg hk.size⟩
theorem Once.same {S : Nat → Prop} {B Bg : Nat} {w0 w W : World} {A : Tab} {v gv dv : Value} {G D : List Int} (h : Once S B Bg w0 w A v gv dv G D) (hk : Keeps S w W) (hp : PTab S B W A v) : Once S B Bg w0 W A v gv dv G D := by
  obtain ⟨a1, a2, a3, a4, a5, a6, a7, a8⟩ := h.turn hk h.good hp h.old h.gone
  exact ⟨a1, a2, a3, a4, h.ne, a5, a6, h.cnt, a7, h.bd, a8⟩

theorem own_lt_ne {B E n : Nat} {w : World} {v : Value} {xs : List Value} (h : w.ownsRow B E 1 v n xs) {g : Nat} (hg : w.heap.size ≤ g) : v.ownBlock ≠ some g := fun e => by have := (h.lt g e).2; omega
/-- One more that was given: the row is laid on, in the world W1 with the one new cell. -/
theorem Once.give {S : Nat → Prop} {B Bg g cap : Nat} {w0 w W w' : World} {A A' : Tab} {v gv dv : Value} {G D : List Int} {x : Int} {o : Obj} (h : Once S B Bg w0 w A v gv dv G D) (hk : Keeps S w W) (hA : A'.Good) (hp : PTab S B W A' v) (ho : ∀ x ∈ G, Old A' x) (hgo : ∀ x ∈ D, Gone A' x) (hx : Old A' x) (hc : A'.idxs.length = A.idxs.length + 1)
    (hown : w'.ownsRow Bg 40 1 (.slice (some ⟨g, 0, none⟩) (G.length + 1) cap) (G.length + 1) (ints G ++ [.int .i64 x])) (hgr : (W.alloc o).grownBy w' gv.ownBlock) (hat : gv.ownBlock = some g ∨ g = W.heap.size + 1) :
    Once S B Bg w0 w' A' v (.slice (some ⟨g, 0, none⟩) (G.length + 1) cap) dv (G ++ [x]) D := by
  obtain ⟨a1, a2, a3, a4, a5, a6, a7, a8⟩ := h.turn hk hA hp ho hgo
  have hbg : ∀ g', gv.ownBlock = some g' → Bg ≤ g' := fun g' e => (h.hg.lt g' e).1
  have hBw : w0.heap.size ≤ Bg := by
    obtain ⟨b, _, _, _, _, _, _, _, hpt, hS⟩ := hp
    have hb : S b := by rw [hS]; simp
    have := h.bd b hb
    omega
  have hB : Below Bg W w' := ((Below.refl Bg W).alloc a8 o).grown hgr (by simp; omega) hbg
  have e : ints G ++ [.int .i64 x] = ints (G ++ [x]) := ints_snoc G x
  have hdne : ∀ k, gv.ownBlock = some k → dv.ownBlock ≠ some k := h.ne
  have hd1 : w'.ownsRow Bg 40 1 dv D.length (ints D) := (a4.alloc o).kept hgr (by
    by_cases hn : dv.ownBlock = none
    · exact .inl hn
    · obtain ⟨k, hk'⟩ := Option.ne_none_iff_exists'.1 hn
      refine .inr fun e => ?_
      rw [hk'] at e
      exact hdne k e.symm hk')
  refine ⟨a1, ?_, ?_, hd1, fun k e2 => ?_, fun y hy => ?_, a6, ?_, a7.trans (hB.mono hBw), h.bd, Nat.le_trans a8 hB.size⟩
  · exact a2.keeps (T := fun y => Bg ≤ y) ⟨hB.os, hB.tape, hB.output, hB.size, fun b _ hn => hB.block b (by omega)⟩ (fun y hy c => by have := (h.bd y hy).2; omega)
  · rw [List.length_append, ← e]; exact hown
  · simp only [Value.ownBlock, Option.some.injEq] at e2
    subst e2
    rcases hat with hat | hat
    · exact hdne g hat
    · exact own_lt_ne a4 (by omega)
  · rcases List.mem_append.1 hy with hy | hy
    · exact a5 y hy
    · simp at hy; subst hy; exact hx
  · rw [List.length_append, hc]; have := h.cnt; simp; omega
theorem Once.went {S : Nat → Prop} {B Bg g cap : Nat} {w0 w W w' : World} {A A' : Tab} {v gv dv : Value} {G D : List Int} {x : Int} {o : Obj} (h : Once S B Bg w0 w A v gv dv G D) (hk : Keeps S w W) (hA : A'.Good) (hp : PTab S B W A' v) (ho : ∀ x ∈ G, Old A' x) (hgo : ∀ x ∈ D, Gone A' x) (hx : Gone A' x) (hc : A'.idxs.length + 1 = A.idxs.length)
    (hown : w'.ownsRow Bg 40 1 (.slice (some ⟨g, 0, none⟩) (D.length + 1) cap) (D.length + 1) (ints D ++ [.int .i64 x])) (hgr : (W.alloc o).grownBy w' dv.ownBlock) (hat : dv.ownBlock = some g ∨ g = W.heap.size + 1) :
    Once S B Bg w0 w' A' v gv (.slice (some ⟨g, 0, none⟩) (D.length + 1) cap) G (D ++ [x]) := by
  obtain ⟨a1, a2, a3, a4, a5, a6, a7, a8⟩ := h.turn hk hA hp ho hgo
  have hbg : ∀ g', dv.ownBlock = some g' → Bg ≤ g' := fun g' e => (h.hd.lt g' e).1
  have hBw : w0.heap.size ≤ Bg := by
    obtain ⟨b, _, _, _, _, _, _, _, hpt, hS⟩ := hp
    have hb : S b := by rw [hS]; simp
    have := h.bd b hb
    omega
  have hB : Below Bg W w' := ((Below.refl Bg W).alloc a8 o).grown hgr (by simp; omega) hbg
  have e : ints D ++ [.int .i64 x] = ints (D ++ [x]) := ints_snoc D x
  have hg1 : w'.ownsRow Bg 40 1 gv G.length (ints G) := (a3.alloc o).kept hgr (by
    by_cases hn : gv.ownBlock = none
    · exact .inl hn
    · obtain ⟨k, hk'⟩ := Option.ne_none_iff_exists'.1 hn
      refine .inr fun e => ?_
      rw [hk'] at e
      exact h.ne k hk' e.symm)
  refine ⟨a1, ?_, hg1, ?_, fun k e2 => ?_, a5, fun y hy => ?_, ?_, a7.trans (hB.mono hBw), h.bd, Nat.le_trans a8 hB.size⟩
  · exact a2.keeps (T := fun y => Bg ≤ y) ⟨hB.os, hB.tape, hB.output, hB.size, fun b _ hn => hB.block b (by omega)⟩ (fun y hy c => by have := (h.bd y hy).2; omega)
  · rw [List.length_append, ← e]; exact hown
  · simp only [Value.ownBlock, ne_eq, Option.some.injEq]
    rintro rfl
    rcases hat with hat | hat
    · exact h.ne _ e2 hat
    · exact own_lt_ne a3 (by omega) e2
  · rcases List.mem_append.1 hy with hy | hy
    · exact a6 y hy
    · simp at hy; subst hy; exact hx
  · rw [List.length_append]; have := h.cnt; simp; omega

theorem new_idxs (kind : Int) (n : Nat) : (Tab.new kind n).idxs.length = 0 := by
  have : (Tab.new kind n).idxs = [] := by
    unfold Tab.idxs
    rw [List.filter_eq_nil_iff]
    intro i _
    unfold Tab.t Tab.new
    simp only [List.getD_eq_getElem?_getD, List.getElem?_replicate]
    split <;> simp
  rw [this]; rfl
theorem place_of (x : Int) (n : Nat) (h : 0 < n) (h2 : n ≤ 200) : ∃ kk : Nat, kk < n ∧ wrap64 ((IntKind.u64.wrap x).tmod (n : Int)) = (kk : Int) := by
  have h0 : 0 ≤ IntKind.u64.wrap x := by rw [IntKind.wrap_u64]; omega
  have e : (IntKind.u64.wrap x).tmod (n : Int) = (IntKind.u64.wrap x) % (n : Int) := Int.tmod_eq_emod_of_nonneg h0
  have a := Int.emod_nonneg (IntKind.u64.wrap x) (show (n : Int) ≠ 0 by omega)
  have b := Int.emod_lt_of_pos (IntKind.u64.wrap x) (show (0 : Int) < (n : Int) by omega)
  rw [e]
  generalize IntKind.u64.wrap x % (n : Int) = r at *
  obtain ⟨kk, rfl⟩ := Int.eq_ofNat_of_zero_le a
  refine ⟨kk, by omega, ?_⟩
  unfold wrap64
  omega

set_option maxHeartbeats 8000000 in
set_option maxRecDepth 200000 in
theorem once_ok (n : Nat) (v : Value) (l : List (Int × Int × Int)) (w : World) (hg : LaidAt w) (hv : OpsAt w v l) (n1 : 1 ≤ n) (n4 : n ≤ 4096) :
    Calls Tryd.prog 6 #[.int .i64 n, v] w fun e w' => e = .returned (.bool true) ∧ Below w.heap.size w w' := by
  obtain ⟨i0, hi, hz0, hz1, hz2⟩ := info_parts Tryd.info40
  have HP := Lib.hid (fun w => pnew_ok 1 n w (by omega) (by omega) n1 n4)
  have HA := Lib.hid (new_good (kind := 1) (by omega) (by omega) n1 n4)
  have HG := Lib.hid hg
  obtain ⟨pl, cpl, rfl, hm, hops⟩ := hv
  have HO := Lib.hid hops
  have zz1 : (1 : Int) ≤ (n : Int) := by omega
  have zz2 : (n : Int) ≤ 4096 := by omega
  clear hg hops
  go_enter Tryd.func6, Tryd.ntmps6
  go_wp2_with fail
  refine (HP.out _).mono ?_
  rintro e w1 ⟨S, v, rfl, hpt, hb1⟩
  have HST := Lib.hid (Once.start HA.out hpt (new_idxs 1 n) hb1)
  have hs1 := hb1.size
  obtain ⟨b, _, _, _, _, _, _, rfl, _, hSx⟩ := hpt
  clear hSx hb1
  go_wp2_with fail
  go_loopw [7, 8, 9, 10, 11, 12, 13] (fun gv dv i _ _ _ _ wr => ∃ (A : Tab) (G D : List Int) (k : Nat), k ≤ l.length ∧ k ≤ 200 ∧ i = .int .i64 k ∧ G.length ≤ k ∧ D.length ≤ k ∧ Hid (Once S w.heap.size w1.heap.size w wr A (.pointer (some ⟨b, 0, none⟩)) gv dv G D)) (fun _ _ i _ _ _ _ _ => l.length - (intOf i).toNat)
  case atStart => exact ⟨_, [], [], 0, Nat.zero_le _, by omega, rfl, by simp, by simp, HST⟩
  case round =>
    obtain ⟨A, G, D, k, hk, hk2, rfl, hGk, hDk, HK⟩ := hrel
    obtain ⟨pG, cG, hgv⟩ := own_shape HK.out.hg (ints_len G)
    obtain ⟨pD, cD, hdv⟩ := own_shape HK.out.hd (ints_len D)
    subst hgv hdv
    by_cases hlt : k < l.length ∧ k < 200
    · obtain ⟨hlt, h200⟩ := hlt
      obtain ⟨⟨ka, hb, xc⟩, hel⟩ : ∃ q, l[k]? = some q := ⟨_, List.getElem?_eq_getElem hlt⟩
      obtain ⟨b1, o1, rfl, hd0, hd1, hd2⟩ := HO.out k ka hb xc hel
      have hbl := cell_lt hd0
      simp only at hbl
      have hcl : ∀ o, wr.cell? ⟨b1, o, none⟩ = w.cell? ⟨b1, o, none⟩ := fun o => HK.out.kp.cell (p := ⟨b1, o, none⟩) hbl
      have c0 := (hcl _).trans hd0
      have c2 := (hcl _).trans hd2
      have z0 : (0 : Int) ≤ (k : Int) := by omega
      have z1 : (k : Int) < (l.length : Int) := by omega
      have z2 : (k : Int) < 200 := by omega
      clear hd0 hd1 hd2 hel hcl
      by_cases hdrop : ka = 3 ∧ 0 < G.length
      · obtain ⟨rfl, hG0⟩ := hdrop
        have HKK := Lib.hid (place_of xc G.length hG0 (by omega))
        go_upto_region 9 with fail
        go_cut [10] (fun s10 wx => ∃ kk : Nat, kk < G.length ∧ s10 = .int .i64 kk ∧ wr = wx)
        case first =>
          go_wp2_with fail
          go_meet
          obtain ⟨kk, h1, h2⟩ := HKK.out
          exact ⟨kk, h1, congrArg (Value.int .i64) h2, rfl⟩
        case rest =>
          obtain ⟨kk, hkk, rfl, rfl⟩ := hcut
          obtain ⟨gb, rfl⟩ : ∃ gb, pG = some ⟨gb, 0, none⟩ := by
            rcases HK.out.hg.2 with ⟨_, h0⟩ | ⟨g, cap, cur, e, _⟩
            · omega
            · injection e with e; exact ⟨g, e⟩
          have q1 := HK.out.hg.cellAt kk (by omega)
          rw [ints_at hkk] at q1
          have y0 : (0 : Int) ≤ (kk : Int) := by omega
          have y1 : (kk : Int) < (G.length : Int) := by omega
          have hmem : G.getD kk 0 ∈ G := by rw [List.getD_eq_getElem?_getD, List.getElem?_eq_getElem hkk]; exact List.getElem_mem hkk
          have HMEM := Lib.hid hmem
          clear hmem
          generalize hgx : G.getD kk 0 = x at *
          have HGX := Lib.hid hgx
          clear hgx
          cases hf : A.find x with
          | none =>
            have HD := Lib.hid (pdrop_none S w.heap.size A HK.out.good wr _ HK.out.pt x hf)
            rw [errV_ne (show (20 : Int) ≠ 0 by omega)] at HD
            clear hf
            go_wp2_with fail
            refine HD.out.mono ?_
            rintro e w2 ⟨rfl, hpt2, hk2⟩
            have HK2 := Lib.hid (HK.out.same hk2 hpt2)
            clear hpt2 hk2 c0 c2 q1
            go_wp2_with fail
            go_roundw
            case rel => exact ⟨A, G, D, k + 1, by omega, by omega, by go_num, by omega, by omega, HK2⟩
            case measure => simp [intOf]; omega
          | some i =>
            have HD := Lib.hid (pdrop_some S w.heap.size A HK.out.good wr _ HK.out.pt x i hf)
            have HF := Lib.hid hf
            clear hf
            go_wp2_with fail
            refine HD.out.mono ?_
            rintro e w2 ⟨rfl, hpt2, hk2⟩
            obtain ⟨t1, t2, t3, t4, t5, t6, t7, t8⟩ := HK.out.turn hk2 (drop_good HK.out.good HF.out) hpt2 (fun z hz => old_drop HK.out.good HF.out (HK.out.old z hz)) (fun z hz => gone_drop HF.out (HK.out.gone z hz))
            have q2 := t3.cellAt kk (by omega)
            rw [ints_at hkk, HGX.out] at q2
            have hs2 := t8
            clear t1 t2 t3 t4 t5 t6 t7 t8 c0 c2 q1
            have hdk := ((HK.out.turn hk2 (drop_good HK.out.good HF.out) hpt2 (fun z hz => old_drop HK.out.good HF.out (HK.out.old z hz)) (fun z hz => gone_drop HF.out (HK.out.gone z hz))).2.2.2.1)
            have HDK := Lib.hid hdk
            have HPT2 := Lib.hid hpt2
            have HKK2 := Lib.hid hk2
            clear hdk hpt2 hk2
            go_wp2_with (at_builtin; refine wpList_append_lies _ rfl _ _ 49 rfl w1.heap.size 40 i0 (.int .i64 0) 1 8 Tryd.underlying49 hi hz0 hz1 hz2 rfl (by decide) _ _ _ rfl (HDK.out.alloc _) ⟨w2.heap.size, 0, none⟩ 1 1 [.int .i64 x] rfl rfl ?a1 ?a2 (by decide) ?a3 ?a4 ?a5 (w2.heap.size + 1) ?a6 ?_)
            case a1 => exact news_one w2 _ _
            case a2 => intro u hu; simp at hu; subst hu; rfl
            case a3 => unfold maxLen; omega
            case a4 => omega
            case a5 => simp; omega
            case a6 => simp
            intro g3 c3 w3 hown3 hgrow3 hat3 hlt3
            have HK3 := Lib.hid (HK.out.went HKK2.out (drop_good HK.out.good HF.out) HPT2.out (fun z hz => old_drop HK.out.good HF.out (HK.out.old z hz)) (fun z hz => gone_drop HF.out (HK.out.gone z hz)) (gone_new HK.out.good HF.out) (drop_len HK.out.good HF.out) hown3 hgrow3 hat3)
            clear hown3 hgrow3 hat3 hlt3
            go_wp2_with fail
            go_roundw
            case rel => exact ⟨_, G, D ++ [x], k + 1, by omega, by omega, by go_num, by omega, by simp; omega, HK3⟩
            case measure => simp [intOf]; omega
      · have hbr : ((ka : Int) == 3) = false ∨ (((ka : Int) == 3) = true ∧ ¬ (0 < (G.length : Int))) := by
          by_cases h3 : ka = 3
          · exact .inr ⟨by simp [h3], fun k => hdrop ⟨h3, by omega⟩⟩
          · exact .inl (by rw [beq_eq_false_iff_ne]; exact h3)
        clear hdrop
        have HDR : Hid (wr.ownsRow w1.heap.size 40 1 (.slice pG G.length cG) G.length (ints G)) := HK.out.hg
        rcases hbr with h3 | ⟨h3, h0⟩
        all_goals
          cases hf : A.free with
          | none =>
            have HD := Lib.hid (padd_none S w.heap.size A HK.out.good wr _ HK.out.pt xc hf)
            rw [errV_ne (show (30 : Int) ≠ 0 by omega)] at HD
            clear hf
            go_wp2_with fail
            refine HD.out.mono ?_
            rintro e w2 ⟨rfl, hpt2, hk2⟩
            have HK2 := Lib.hid (HK.out.same hk2 hpt2)
            clear hpt2 hk2 c0 c2
            go_wp2_with fail
            go_roundw
            case rel => exact ⟨A, G, D, k + 1, by omega, by omega, by go_num, by omega, by omega, HK2⟩
            case measure => simp [intOf]; omega
          | some i =>
            have HD := Lib.hid (padd_some S w.heap.size A HK.out.good wr _ HK.out.pt xc i hf)
            have HF := Lib.hid hf
            clear hf
            go_wp2_with fail
            refine HD.out.mono ?_
            rintro e w2 ⟨rfl, hpt2, hk2⟩
            obtain ⟨t1, t2, t3, t4, t5, t6, t7, t8⟩ := HK.out.turn hk2 (add_good HK.out.good HF.out xc) hpt2 (fun z hz => old_add HK.out.good HF.out xc (HK.out.old z hz)) (fun z hz => gone_add xc (HK.out.gone z hz))
            have HG3 := Lib.hid t3
            have HPT2 := Lib.hid hpt2
            have HKK2 := Lib.hid hk2
            have hs2 := t8
            clear t1 t2 t3 t4 t5 t6 t7 t8 hpt2 hk2 c0 c2
            have HNE := Lib.hid (fun z hz => old_ne HK.out.good HF.out (HK.out.old z hz))
            go_wp2_with fail
            go_loopg [13] G.length (fun kx i' w' => ∃ j : Nat, j + kx = G.length ∧ i' = .int .i64 j ∧ w2 = w')
            case atStart => exact ⟨0, by omega, rfl, rfl⟩
            case round =>
              obtain ⟨j, hj, rfl, rfl⟩ := hrel
              have j0 : (0 : Int) ≤ (j : Int) := by omega
              by_cases hjl : j < G.length
              · obtain ⟨g', rfl⟩ : ∃ g', gk = g' + 1 := ⟨gk - 1, by omega⟩
                obtain ⟨gb, hpg⟩ : ∃ gb, pG = some ⟨gb, 0, none⟩ := by
                  rcases HG3.out.2 with ⟨_, h0⟩ | ⟨g, cap, cur, e, _⟩
                  · omega
                  · injection e with e; exact ⟨g, e⟩
                subst hpg
                have q1 := HG3.out.cellAt j (by omega)
                rw [ints_at hjl] at q1
                have hmem : G.getD j 0 ∈ G := by rw [List.getD_eq_getElem?_getD, List.getElem?_eq_getElem hjl]; exact List.getElem_mem hjl
                have hne := HNE.out _ hmem
                have hq : (G.getD j 0 == A.hd i) = false := by rw [beq_eq_false_iff_ne]; exact hne
                have j1 : (j : Int) < (G.length : Int) := by omega
                clear hmem hne
                generalize G.getD j 0 = z at *
                go_wp2_with fail
                go_roundg g'
                case measure => omega
                case rel => exact ⟨j + 1, by omega, by go_num, rfl⟩
              · go_wp2_with (at_builtin; refine wpList_append_lies _ rfl _ _ 49 rfl w1.heap.size 40 i0 (.int .i64 0) 1 8 Tryd.underlying49 hi hz0 hz1 hz2 rfl (by decide) _ _ _ rfl (HG3.out.alloc _) ⟨w2.heap.size, 0, none⟩ 1 1 [.int .i64 (A.hd i)] rfl rfl (news_one w2 _ _) (by intro u hu; simp at hu; subst hu; rfl) (by decide) (by unfold maxLen; omega) (by omega) (by simp; omega) (w2.heap.size + 1) (by simp) ?_)
                intro g3 c3 w3 hown3 hgrow3 hat3 hlt3
                have HK3 := Lib.hid (HK.out.give HKK2.out (add_good HK.out.good HF.out xc) HPT2.out (fun z hz => old_add HK.out.good HF.out xc (HK.out.old z hz)) (fun z hz => gone_add xc (HK.out.gone z hz)) (old_new HK.out.good HF.out xc) (add_len HK.out.good HF.out xc) hown3 hgrow3 hat3)
                clear hown3 hgrow3 hat3 hlt3
                go_wp2_with fail
                go_roundw
                case rel => exact ⟨_, G ++ [A.hd i], D, k + 1, by omega, by omega, by go_num, by simp; omega, by omega, HK3⟩
                case measure => simp [intOf]; omega
    · have hbr : ¬ (k < l.length) ∨ (k < l.length ∧ (200 : Int) ≤ (k : Int)) := by
        by_cases h4 : k < l.length
        · exact .inr ⟨h4, by omega⟩
        · exact .inl h4
      clear hlt
      have z0 : (0 : Int) ≤ (k : Int) := by omega
      have zg : (G.length : Int) ≤ 200 := by omega
      have zd : (D.length : Int) ≤ 200 := by omega
      have zdg : (D.length : Int) ≤ (G.length : Int) := by have := HK.out.cnt; omega
      have HQ := Lib.hid (show ((A.idxs.length : Nat) : Int) = (G.length : Int) - (D.length : Int) by have := HK.out.cnt; omega)
      rcases hbr with h4 | ⟨h4, h5⟩
      all_goals
        go_wp2_with fail
        go_loopw [14, 15, 16] (fun i' _ _ w' => ∃ j : Nat, j ≤ D.length ∧ i' = .int .i64 j ∧ Hid (Once S w.heap.size w1.heap.size w w' A (.pointer (some ⟨b, 0, none⟩)) (.slice pG G.length cG) (.slice pD D.length cD) G D)) (fun i' _ _ _ => D.length - (intOf i').toNat)
        case atStart => exact ⟨0, Nat.zero_le _, rfl, HK⟩
        case round =>
          clear HK
          obtain ⟨j, hj, rfl, HK⟩ := hrel
          have j0 : (0 : Int) ≤ (j : Int) := by omega
          by_cases hjl : j < D.length
          · obtain ⟨gb, hpg⟩ : ∃ gb, pD = some ⟨gb, 0, none⟩ := by
              rcases HK.out.hd.2 with ⟨_, h0⟩ | ⟨g, cap, cur, e, _⟩
              · omega
              · injection e with e; exact ⟨g, e⟩
            subst hpg
            have q1 := HK.out.hd.cellAt j (by omega)
            rw [ints_at hjl] at q1
            have hmem : D.getD j 0 ∈ D := by rw [List.getD_eq_getElem?_getD, List.getElem?_eq_getElem hjl]; exact List.getElem_mem hjl
            have hfn := gone_find HK.out.good (HK.out.gone _ hmem)
            have j1 : (j : Int) < (D.length : Int) := by omega
            clear hmem
            generalize hgx : D.getD j 0 = x at *
            have HGX := Lib.hid hgx
            have hget := fun W h => pget S w.heap.size A HK.out.good W (.pointer (some ⟨b, 0, none⟩)) h x
            rw [show getV A x = 0 by unfold getV; rw [hfn], show errV (getN A x) = .iface 64 (.int .i64 20) by unfold getN; rw [hfn]; rfl] at hget
            have hset := fun W h => pset_none S w.heap.size A HK.out.good W (.pointer (some ⟨b, 0, none⟩)) h x 1 hfn
            have hdrp := fun W h => pdrop_none S w.heap.size A HK.out.good W (.pointer (some ⟨b, 0, none⟩)) h x hfn
            rw [errV_ne (show (20 : Int) ≠ 0 by omega)] at hset hdrp
            have HGET := Lib.hid hget
            have HSET := Lib.hid hset
            have HDRP := Lib.hid hdrp
            clear hget hset hdrp hfn hgx
            go_wp2_with fail
            refine (HGET.out _ HK.out.pt).mono ?_
            rintro e w2 ⟨rfl, hb2⟩
            have HK2 := Lib.hid (HK.out.same (Keeps.of_below hb2) (HK.out.pt.below hb2))
            clear hb2 q1
            go_wp2_with fail
            refine (num_errno 20 _ (HG.out.below HK2.out.kp)).mono ?_
            rintro e w3 ⟨rfl, hb3⟩
            have HK3 := Lib.hid (HK2.out.same (Keeps.of_below hb3) (HK2.out.pt.below hb3))
            have q3 := HK3.out.hd.cellAt j (by omega)
            rw [ints_at hjl, HGX.out] at q3
            clear hb3
            go_wp2_with fail
            refine (HSET.out _ HK3.out.pt).mono ?_
            rintro e w4 ⟨rfl, hpt4, hk4⟩
            have HK4 := Lib.hid (HK3.out.same hk4 hpt4)
            have q4 := HK4.out.hd.cellAt j (by omega)
            rw [ints_at hjl, HGX.out] at q4
            clear hpt4 hk4 q3
            go_wp2_with fail
            refine (HDRP.out _ HK4.out.pt).mono ?_
            rintro e w5 ⟨rfl, hpt5, hk5⟩
            have HK5 := Lib.hid (HK4.out.same hk5 hpt5)
            clear hpt5 hk5 q4
            go_wp2_with fail
            go_roundw
            case rel => exact ⟨j + 1, by omega, by go_num, HK5⟩
            case measure => simp [intOf]; omega
          · have HLN := Lib.hid (plen S w.heap.size A HK.out.good _ (.pointer (some ⟨b, 0, none⟩)) HK.out.pt)
            rw [HQ.out] at HLN
            go_wp2_with fail
            refine HLN.out.mono ?_
            rintro e w2 ⟨rfl, rfl⟩
            go_wp2_with fail
            refine (sure_true _).mono ?_
            rintro e w3 ⟨rfl, hb3⟩
            go_wp2_with fail
            go_ret
            exact ⟨rfl, bnext HK.out.kp hb3⟩

set_option maxHeartbeats 2000000 in
set_option maxRecDepth 200000 in
theorem once_no (many : Int) (v : Value) (w : World) (h : ¬ (1 ≤ many ∧ many ≤ 4096)) :
    Calls Tryd.prog 6 #[.int .i64 many, v] w fun e w' => e = .returned (.bool true) ∧ Below w.heap.size w w' := by
  have HP := Lib.hid (fun w => pnew_no 1 many w (fun c => h c.2.2))
  have hbr : many < 1 ∨ (¬ many < 1 ∧ 4096 < many) := by omega
  clear h
  rcases hbr with h4 | ⟨h4, h5⟩
  all_goals
    go_enter Tryd.func6, Tryd.ntmps6
    go_wp2_with fail
    refine (HP.out _).mono ?_
    rintro e w1 ⟨rfl, rfl⟩
    go_wp2_with fail
    refine (sure_true _).mono ?_
    rintro e w3 ⟨rfl, hb3⟩
    go_wp2_with fail
    go_ret
    exact ⟨rfl, hb3⟩

theorem once_any (many : Int) (v : Value) (l : List (Int × Int × Int)) (w : World) (hg : LaidAt w) (hv : OpsAt w v l) :
    Calls Tryd.prog 6 #[.int .i64 many, v] w fun e w' => e = .returned (.bool true) ∧ Below w.heap.size w w' := by
  by_cases h : 1 ≤ many ∧ many ≤ 4096
  · obtain ⟨n, rfl⟩ := Int.eq_ofNat_of_zero_le (show 0 ≤ many by omega)
    exact once_ok n v l w hg hv (by omega) (by omega)
  · exact once_no many v w h
end Go.Proofs.YtmmbopaieffgeaaDoor
