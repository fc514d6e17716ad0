/- The walk of the law HeapTexts: it answers true whatever texts are put in; it writes nothing that was there; no condition but how the argument reads. -/
import Derived.Test.YtodcnlmodoahjaaEOpsAt
import Derived.Test.YtodcnlmodoahjaaEOpsS
import Derived.Deep.CutRange
import Derived.Deep.LoopGhost
import Derived.Deep.Strs
namespace Go.Proofs.Ytodcnlmodoahjaa
open Go.RowKit Go.Maps Hp

/-- A slice of texts that reads as a list. -/
def TextsAt (w : World) (v : Value) (l : List ByteArray) : Prop :=
  ∃ p cap, v = .slice p l.length cap ∧ l.length ≤ 9223372036854775807 ∧ ∀ j x, l[j]? = some x → ∃ b off, p = some ⟨b, off, none⟩ ∧ w.cell? ⟨b, off + j, none⟩ = some (.string x)
theorem TextsAt.below {w w' : World} {v : Value} {l : List ByteArray} (h : TextsAt w v l) (hb : Below w.heap.size w w') : TextsAt w' v l := by
  obtain ⟨p, cap, e, hl, hc⟩ := h
  refine ⟨p, cap, e, hl, fun j x hj => ?_⟩
  obtain ⟨b, off, e2, c0⟩ := hc j x hj
  exact ⟨b, off, e2, (hb.cell (p := ⟨b, off + j, none⟩) (cell_lt c0)).trans c0⟩
theorem sorted_hasG {α : Type} {kc : α → α → Int} (C : Cmp kc) (R : List (Int × α)) : ∃ Q : List (Int × α), Q.Perm R ∧ Q.Pairwise (le (ahB kc)) := by
  refine ⟨_, List.mergeSort_perm R (fun x y => !(ahB kc y x)), ?_⟩
  have := List.pairwise_mergeSort (le := fun x y : Int × α => !(ahB kc y x))
    (fun a b c h1 h2 => by
      simp only [Bool.not_eq_true'] at *
      exact C.ord.le_trans (ah := ahB kc) (x := a) (y := b) (z := c) h1 h2)
    (fun a b => by
      rcases Bool.eq_false_or_eq_true (ahB kc b a) with e | e
      · have := C.ord.asym (ah := ahB kc) (x := b) (y := a) e
        simp only [Bool.or_eq_true, Bool.not_eq_true']
        exact .inr this
      · simp [e]) R
  refine this.imp fun {a b} hab => ?_
  simpa [le] using hab
/-- The heap with the entries R, all of them numbers of texts of l, below k. -/
def FillS (w : World) (b : Nat) (l : List ByteArray) (k : Nat) (R : List (Int × ByteArray)) (W : World) : Prop :=
  (∃ S, HpR kc_S enc_S HT_S NT_S w.heap.size S W R b) ∧ Below w.heap.size w W ∧ ∀ e ∈ R, ∃ j : Nat, j < k ∧ e.1 = j ∧ l[j]? = some e.2
/-- An entry does not come ahead of the last one. -/
def Okk (last : ByteArray) (lastId : Int) (e : Int × ByteArray) : Prop := Op.bytesLess e.2.toList last.toList = false ∧ ((e.2.toList == last.toList) = true → lastId < e.1)
theorem okk_of {x e : Int × ByteArray} (h : ahB kc_S x e = true) : Okk x.2 x.1 e := by
  obtain ⟨i, k⟩ := x
  obtain ⟨j, m⟩ := e
  simp only [ahB, decide_eq_true_eq] at h
  unfold cf at h
  simp only at h
  by_cases h0 : kc_S k m = 0
  · rw [if_pos h0] at h
    have e := cmp_S.eq h0
    subst e
    refine ⟨by show Op.bytesLess k.toList k.toList = false; rw [bytesLess_eq]; simp, fun _ => ?_⟩
    unfold kc_I at h
    show i < j
    split at h <;> (try split at h) <;> omega
  · rw [if_neg h0] at h
    have h1 : Op.bytesLess k.toList m.toList = true := by
      unfold kc_S at h
      split at h
      · assumption
      · split at h <;> omega
    rw [bytesLess_eq] at h1
    have h2 : k.toList < m.toList := by simpa using h1
    refine ⟨?_, fun e => ?_⟩
    · show Op.bytesLess m.toList k.toList = false
      rw [bytesLess_eq]
      simpa using List.lt_asymm h2
    · have e' : m.toList = k.toList := by simpa using e
      rw [e'] at h2
      exact absurd h2 (List.lt_irrefl _)
/-- The heap while it is emptied. -/
def EmptS (w : World) (b : Nat) (l : List ByteArray) (R : List (Int × ByteArray)) (last : ByteArray) (lastId : Int) (W : World) : Prop :=
  FillS w b l l.length R W ∧ ∀ e ∈ R, Okk last lastId e
theorem FillS.step {w W W' : World} {b : Nat} {l : List ByteArray} {k : Nat} {R : List (Int × ByteArray)} {S : Nat → Prop} (h : HpR kc_S enc_S HT_S NT_S w.heap.size S W R b) (hb : Below w.heap.size w W) (hl : ∀ e ∈ R, ∃ j : Nat, j < k ∧ e.1 = j ∧ l[j]? = some e.2) {x : ByteArray} (hx : l[k]? = some x)
    (hc : Come kc_S enc_S HT_S NT_S w.heap.size S W (((k : Int), x) :: R) b W') : FillS w b l (k + 1) (((k : Int), x) :: R) W' := by
  have hu := Come.under hb h hb.size hc
  obtain ⟨S', h1, _, _⟩ := hc
  refine ⟨⟨S', h1⟩, hu, fun e he => ?_⟩
  rcases List.mem_cons.1 he with rfl | he
  · exact ⟨k, by omega, rfl, hx⟩
  · obtain ⟨j, h1, h2, h3⟩ := hl e he
    exact ⟨j, by omega, h2, h3⟩

set_option maxHeartbeats 2000000 in
set_option maxRecDepth 100000 in
theorem texts_any (v : Value) (l : List ByteArray) (w : World) (ho : TextsAt w v l) :
    Calls Try.prog 4 #[v] w fun e w' => e = .returned (.bool true) ∧ Below w.heap.size w w' := by
  have HOW := Lib.hid ho
  obtain ⟨p, cap, rfl, hl63, hcells⟩ := ho
  have hl63' : (l.length : Int) ≤ 9223372036854775807 := by omega
  have h0 := hp_new_S (B := w.heap.size) w (Nat.le_refl _)
  have HF0 := Lib.hid (show FillS w w.heap.size l 0 [] (w.alloc (.cells #[.slice none 0 0, .map none] HT_S)) from ⟨⟨_, h0⟩, (Below.refl _ _).alloc (Nat.le_refl _) _, fun e he => by simp at he⟩)
  clear hcells h0
  go_enter Try.func4, Try.ntmps4
  go_wp2_with fail
  refine (new_S w).mono ?_
  rintro e w1 ⟨rfl, rfl⟩
  go_wp2_with fail
  go_loopw [4] (fun iv wr => ∃ (k : Nat) (R : List (Int × ByteArray)), iv = .int .i64 k ∧ R.length ≤ k ∧ k ≤ 200 ∧ k ≤ l.length ∧ Hid (FillS w w.heap.size l k R wr)) (fun iv _ => l.length - (intOf iv).toNat)
  case atStart => exact ⟨0, [], rfl, by simp, by omega, by omega, HF0⟩
  case round =>
    obtain ⟨k, R, rfl, hRk, hk3, hkl, HF⟩ := hrel
    clear HF0
    by_cases hlt : k < l.length
    · by_cases hlt3 : k < 200
      · have hlt' : (k : Int) < (l.length : Int) := by omega
        have hlt3' : (k : Int) < 200 := by omega
        have HOW2 := Lib.hid (HOW.out.below HF.out.2.1)
        obtain ⟨x, hq⟩ : ∃ q, l[k]? = some q := ⟨_, List.getElem?_eq_getElem hlt⟩
        obtain ⟨p', cap', e1, _, hc2⟩ := HOW2.out
        obtain ⟨b, off, rfl, c1⟩ := hc2 k x hq
        injection e1 with e1 _ e3
        subst e1
        have HP := Lib.hid (show Calls Try.prog 12 #[.pointer (some ⟨w.heap.size, 0, none⟩), .int .i64 k, .string x] wr (fun e w' => e = .returned .nilIface ∧ FillS w w.heap.size l (k + 1) ((k, x) :: R) w') from by
          obtain ⟨⟨S, h1⟩, h2, h3⟩ := HF.out
          exact (push_S h1 k x (In64.nat (by omega)) (fun e he h => by obtain ⟨j, hj, h4, _⟩ := h3 e he; omega) (by omega) h2.size).mono fun e w' ⟨he, hc⟩ => ⟨he, FillS.step h1 h2 h3 hq hc⟩)
        clear hc2 hq HOW2 e3
        go_wp2_with fail
        refine HP.out.mono ?_
        rintro e w2 ⟨rfl, hf⟩
        have HF2 := Lib.hid hf
        have HP2 := Lib.hid (show Calls Try.prog 12 #[.pointer (some ⟨w.heap.size, 0, none⟩), .int .i64 k, .string ⟨#[]⟩] w2 (fun e w' => e = .returned (.iface 50 (.int .i64 1)) ∧ w2 = w') from by
          obtain ⟨⟨S, h1⟩, _⟩ := hf
          exact push_again_S h1 k ⟨#[]⟩ ⟨(k, x), by simp, rfl⟩)
        clear hf HP
        go_wp2_with fail
        refine HP2.out.mono ?_
        rintro e w3 ⟨rfl, rfl⟩
        go_wp2_with fail
        go_roundw
        case rel => exact ⟨k + 1, (k, x) :: R, by go_num, by simp; omega, by omega, by omega, HF2⟩
        case measure => simp [intOf]; omega
      · have hg3 : decide ((k : Int) < 200) = false := decide_eq_false (by omega)
        have hlt' : (k : Int) < (l.length : Int) := by omega
        clear hlt3
        have HE := Lib.hid (show EmptS w w.heap.size l R ⟨#[]⟩ (-1) wr from ⟨⟨HF.out.1, HF.out.2.1, fun e he => by
          obtain ⟨j, h1, h2, h3⟩ := HF.out.2.2 e he
          exact ⟨j, by omega, h2, h3⟩⟩, fun e he => by
          obtain ⟨j, _, h2, _⟩ := HF.out.2.2 e he
          refine ⟨by rw [bytesLess_eq]; simp, fun _ => by omega⟩⟩)
        have hR2 : R.length ≤ 200 := by omega
        clear HF hRk hk3 hkl
        go_wp2_with fail
        go_loopg [5, 6] (R.length) (fun g lv gv wr => ∃ (R : List (Int × ByteArray)) (last : ByteArray) (lastId : Int), lv = .string last ∧ gv = .int .i64 lastId ∧ R.length ≤ g ∧ R.length ≤ 200 ∧ Hid (EmptS w w.heap.size l R last lastId wr))
        case atStart => exact ⟨R, _, _, rfl, rfl, Nat.le_refl _, hR2, HE⟩
        case round =>
          obtain ⟨R1, last, lastId, rfl, rfl, hg, hR3, HE1⟩ := hrel
          clear HE hR2
          obtain ⟨Q, hQ, hs⟩ := sorted_hasG cmp_S R1
          rcases Q with _ | ⟨x, R'⟩
          · obtain rfl := hQ.symm.eq_nil
            have HL := Lib.hid (show Calls Try.prog 13 #[.pointer (some ⟨w.heap.size, 0, none⟩)] wr (fun e w' => e = .returned (.int .i64 0) ∧ wr = w') from by
              obtain ⟨⟨⟨S, h1⟩, _⟩, _⟩ := HE1.out
              exact len_S h1)
            have HSU := Lib.hid (sure_any wr)
            clear hQ hs
            go_wp2_with fail
            refine HL.out.mono ?_
            rintro e w4 ⟨rfl, rfl⟩
            go_wp2_with fail
            refine HSU.out.mono ?_
            rintro e w4 ⟨rfl, hb⟩
            have HB := Lib.hid (bnext HE1.out.1.2.1 hb)
            clear hb
            go_wp2_with fail
            go_ret
            exact ⟨rfl, HB.out⟩
          · have hlq : R1.length = R'.length + 1 := by have := hQ.length_eq; simpa using this.symm
            have HL := Lib.hid (show Calls Try.prog 13 #[.pointer (some ⟨w.heap.size, 0, none⟩)] wr (fun e w' => e = .returned (.int .i64 ((R'.length : Int) + 1)) ∧ wr = w') from by
              obtain ⟨⟨⟨S, h1⟩, _⟩, _⟩ := HE1.out
              have := len_S h1
              rw [hlq] at this
              exact this)
            have HP := Lib.hid (show Calls Try.prog 14 #[.pointer (some ⟨w.heap.size, 0, none⟩)] wr (fun e w' => e = .returned (.tuple #[.int .i64 x.1, .string x.2, .bool true]) ∧ EmptS w w.heap.size l R' x.2 x.1 w') from by
              obtain ⟨⟨⟨S, h1⟩, h2, h3⟩, h4⟩ := HE1.out
              have hnd := (h1.perm hQ.symm).nodup
              refine (pop_S h1 x R' (by
                have := sorted_mn cmp_S hs
                exact ⟨hQ.mem_iff.1 this.1, fun y hy => this.2 y (hQ.mem_iff.2 hy)⟩) hQ.symm).mono fun e w' ⟨he, hg⟩ => ⟨he, ⟨⟨S, hg.1⟩, h2.trans (h1.under h2.size hg.2), fun e he => h3 e (hQ.mem_iff.1 (by simp [he]))⟩, fun e he => okk_of ?_⟩
              refine ord_S.lt_of_le_ne ((List.pairwise_cons.1 hs).1 e he) fun e2 => ?_
              subst e2
              simp only [List.map_cons, List.nodup_cons] at hnd
              exact hnd.1 (List.mem_map_of_mem he))
            have HLn := fun (w' : World) (h : EmptS w w.heap.size l R' x.2 x.1 w') => Lib.hid (show Calls Try.prog 13 #[.pointer (some ⟨w.heap.size, 0, none⟩)] w' (fun e w2 => e = .returned (.int .i64 R'.length) ∧ w' = w2) from by
              obtain ⟨⟨⟨S, h1⟩, _⟩, _⟩ := h
              exact len_S h1)
            have hxm : x ∈ R1 := hQ.mem_iff.1 (by simp)
            obtain ⟨j, hj, hx1, hx2⟩ := HE1.out.1.2.2 x hxm
            have HCE := fun (w' : World) (h : EmptS w w.heap.size l R' x.2 x.1 w') => Lib.hid (show ∃ b off, p = some ⟨b, off, none⟩ ∧ w'.cell? ⟨b, off + j, none⟩ = some (.string x.2) from by
              obtain ⟨p', cap', e1, _, hc2⟩ := (HOW.out.below h.1.2.1)
              obtain ⟨b, off, e2, c1⟩ := hc2 j x.2 hx2
              injection e1 with e1 _ _
              exact ⟨b, off, e1.trans e2, c1⟩)
            obtain ⟨o1, o2⟩ := HE1.out.2 x hxm
            have hr' : R'.length ≤ 199 := by omega
            have hgk : R'.length < gk := by omega
            obtain ⟨xi, xk⟩ := x
            simp only at hx1 hx2 o1 o2 HP HLn HCE
            subst hx1
            have hj' : (j : Int) < (l.length : Int) := by omega
            clear hQ hs hxm hx2 hlq hg hR3
            by_cases heq : (xk.toList == last.toList) = true
            · have o3 := o2 heq
              have y3 : decide ((j : Int) ≤ lastId) = false := decide_eq_false (by omega)
              clear o2
              go_wp2_with fail
              refine HL.out.mono ?_
              rintro e w4 ⟨rfl, rfl⟩
              go_wp2_with fail
              refine HL.out.mono ?_
              rintro e w4 ⟨rfl, rfl⟩
              go_wp2_with fail
              refine HP.out.mono ?_
              rintro e w4 ⟨rfl, hE4⟩
              have HE4 := Lib.hid hE4
              have HL4 := HLn w4 hE4
              obtain ⟨b4, off4, rfl, hcell⟩ := (HCE w4 hE4).out
              clear hE4 HP HLn HCE HL
              go_wp2_with fail
              refine HL4.out.mono ?_
              rintro e w5 ⟨rfl, rfl⟩
              go_wp2_with fail
              go_roundg (R'.length)
              case measure => exact hgk
              case rel => exact ⟨R', xk, j, rfl, rfl, Nat.le_refl _, by omega, HE4⟩
            · have heq' : (xk.toList == last.toList) = false := by simpa using heq
              clear heq o2
              go_wp2_with fail
              refine HL.out.mono ?_
              rintro e w4 ⟨rfl, rfl⟩
              go_wp2_with fail
              refine HL.out.mono ?_
              rintro e w4 ⟨rfl, rfl⟩
              go_wp2_with fail
              refine HP.out.mono ?_
              rintro e w4 ⟨rfl, hE4⟩
              have HE4 := Lib.hid hE4
              have HL4 := HLn w4 hE4
              obtain ⟨b4, off4, rfl, hcell⟩ := (HCE w4 hE4).out
              clear hE4 HP HLn HCE HL
              go_wp2_with fail
              refine HL4.out.mono ?_
              rintro e w5 ⟨rfl, rfl⟩
              go_wp2_with fail
              go_roundg (R'.length)
              case measure => exact hgk
              case rel => exact ⟨R', xk, j, rfl, rfl, Nat.le_refl _, by omega, HE4⟩
    · have hg3 : decide (k < l.length) = false := decide_eq_false hlt
      clear hlt
      have HE := Lib.hid (show EmptS w w.heap.size l R ⟨#[]⟩ (-1) wr from ⟨⟨HF.out.1, HF.out.2.1, fun e he => by
        obtain ⟨j, h1, h2, h3⟩ := HF.out.2.2 e he
        exact ⟨j, by omega, h2, h3⟩⟩, fun e he => by
        obtain ⟨j, _, h2, _⟩ := HF.out.2.2 e he
        refine ⟨by rw [bytesLess_eq]; simp, fun _ => by omega⟩⟩)
      have hR2 : R.length ≤ 200 := by omega
      clear HF hRk hk3 hkl
      go_wp2_with fail
      go_loopg [5, 6] (R.length) (fun g lv gv wr => ∃ (R : List (Int × ByteArray)) (last : ByteArray) (lastId : Int), lv = .string last ∧ gv = .int .i64 lastId ∧ R.length ≤ g ∧ R.length ≤ 200 ∧ Hid (EmptS w w.heap.size l R last lastId wr))
      case atStart => exact ⟨R, _, _, rfl, rfl, Nat.le_refl _, hR2, HE⟩
      case round =>
        obtain ⟨R1, last, lastId, rfl, rfl, hg, hR3, HE1⟩ := hrel
        clear HE hR2
        obtain ⟨Q, hQ, hs⟩ := sorted_hasG cmp_S R1
        rcases Q with _ | ⟨x, R'⟩
        · obtain rfl := hQ.symm.eq_nil
          have HL := Lib.hid (show Calls Try.prog 13 #[.pointer (some ⟨w.heap.size, 0, none⟩)] wr (fun e w' => e = .returned (.int .i64 0) ∧ wr = w') from by
            obtain ⟨⟨⟨S, h1⟩, _⟩, _⟩ := HE1.out
            exact len_S h1)
          have HSU := Lib.hid (sure_any wr)
          clear hQ hs
          go_wp2_with fail
          refine HL.out.mono ?_
          rintro e w4 ⟨rfl, rfl⟩
          go_wp2_with fail
          refine HSU.out.mono ?_
          rintro e w4 ⟨rfl, hb⟩
          have HB := Lib.hid (bnext HE1.out.1.2.1 hb)
          clear hb
          go_wp2_with fail
          go_ret
          exact ⟨rfl, HB.out⟩
        · have hlq : R1.length = R'.length + 1 := by have := hQ.length_eq; simpa using this.symm
          have HL := Lib.hid (show Calls Try.prog 13 #[.pointer (some ⟨w.heap.size, 0, none⟩)] wr (fun e w' => e = .returned (.int .i64 ((R'.length : Int) + 1)) ∧ wr = w') from by
            obtain ⟨⟨⟨S, h1⟩, _⟩, _⟩ := HE1.out
            have := len_S h1
            rw [hlq] at this
            exact this)
          have HP := Lib.hid (show Calls Try.prog 14 #[.pointer (some ⟨w.heap.size, 0, none⟩)] wr (fun e w' => e = .returned (.tuple #[.int .i64 x.1, .string x.2, .bool true]) ∧ EmptS w w.heap.size l R' x.2 x.1 w') from by
            obtain ⟨⟨⟨S, h1⟩, h2, h3⟩, h4⟩ := HE1.out
            have hnd := (h1.perm hQ.symm).nodup
            refine (pop_S h1 x R' (by
              have := sorted_mn cmp_S hs
              exact ⟨hQ.mem_iff.1 this.1, fun y hy => this.2 y (hQ.mem_iff.2 hy)⟩) hQ.symm).mono fun e w' ⟨he, hg⟩ => ⟨he, ⟨⟨S, hg.1⟩, h2.trans (h1.under h2.size hg.2), fun e he => h3 e (hQ.mem_iff.1 (by simp [he]))⟩, fun e he => okk_of ?_⟩
            refine ord_S.lt_of_le_ne ((List.pairwise_cons.1 hs).1 e he) fun e2 => ?_
            subst e2
            simp only [List.map_cons, List.nodup_cons] at hnd
            exact hnd.1 (List.mem_map_of_mem he))
          have HLn := fun (w' : World) (h : EmptS w w.heap.size l R' x.2 x.1 w') => Lib.hid (show Calls Try.prog 13 #[.pointer (some ⟨w.heap.size, 0, none⟩)] w' (fun e w2 => e = .returned (.int .i64 R'.length) ∧ w' = w2) from by
            obtain ⟨⟨⟨S, h1⟩, _⟩, _⟩ := h
            exact len_S h1)
          have hxm : x ∈ R1 := hQ.mem_iff.1 (by simp)
          obtain ⟨j, hj, hx1, hx2⟩ := HE1.out.1.2.2 x hxm
          have HCE := fun (w' : World) (h : EmptS w w.heap.size l R' x.2 x.1 w') => Lib.hid (show ∃ b off, p = some ⟨b, off, none⟩ ∧ w'.cell? ⟨b, off + j, none⟩ = some (.string x.2) from by
            obtain ⟨p', cap', e1, _, hc2⟩ := (HOW.out.below h.1.2.1)
            obtain ⟨b, off, e2, c1⟩ := hc2 j x.2 hx2
            injection e1 with e1 _ _
            exact ⟨b, off, e1.trans e2, c1⟩)
          obtain ⟨o1, o2⟩ := HE1.out.2 x hxm
          have hr' : R'.length ≤ 199 := by omega
          have hgk : R'.length < gk := by omega
          obtain ⟨xi, xk⟩ := x
          simp only at hx1 hx2 o1 o2 HP HLn HCE
          subst hx1
          have hj' : (j : Int) < (l.length : Int) := by omega
          clear hQ hs hxm hx2 hlq hg hR3
          by_cases heq : (xk.toList == last.toList) = true
          · have o3 := o2 heq
            have y3 : decide ((j : Int) ≤ lastId) = false := decide_eq_false (by omega)
            clear o2
            go_wp2_with fail
            refine HL.out.mono ?_
            rintro e w4 ⟨rfl, rfl⟩
            go_wp2_with fail
            refine HL.out.mono ?_
            rintro e w4 ⟨rfl, rfl⟩
            go_wp2_with fail
            refine HP.out.mono ?_
            rintro e w4 ⟨rfl, hE4⟩
            have HE4 := Lib.hid hE4
            have HL4 := HLn w4 hE4
            obtain ⟨b4, off4, rfl, hcell⟩ := (HCE w4 hE4).out
            clear hE4 HP HLn HCE HL
            go_wp2_with fail
            refine HL4.out.mono ?_
            rintro e w5 ⟨rfl, rfl⟩
            go_wp2_with fail
            go_roundg (R'.length)
            case measure => exact hgk
            case rel => exact ⟨R', xk, j, rfl, rfl, Nat.le_refl _, by omega, HE4⟩
          · have heq' : (xk.toList == last.toList) = false := by simpa using heq
            clear heq o2
            go_wp2_with fail
            refine HL.out.mono ?_
            rintro e w4 ⟨rfl, rfl⟩
            go_wp2_with fail
            refine HL.out.mono ?_
            rintro e w4 ⟨rfl, rfl⟩
            go_wp2_with fail
            refine HP.out.mono ?_
            rintro e w4 ⟨rfl, hE4⟩
            have HE4 := Lib.hid hE4
            have HL4 := HLn w4 hE4
            obtain ⟨b4, off4, rfl, hcell⟩ := (HCE w4 hE4).out
            clear hE4 HP HLn HCE HL
            go_wp2_with fail
            refine HL4.out.mono ?_
            rintro e w5 ⟨rfl, rfl⟩
            go_wp2_with fail
            go_roundg (R'.length)
            case measure => exact hgk
            case rel => exact ⟨R', xk, j, rfl, rfl, Nat.le_refl _, by omega, HE4⟩
end Go.Proofs.Ytodcnlmodoahjaa
