/- The program's book: Even; no condition but those that each row names. -/
import Derived.Test.YtdbfjcdglcagaaaPAbove
namespace Go.Proofs.Ytdbfjcdglcagaaa
open Go.RowKit Go.Maps Bk

/-- What those below were given that have come already. -/
def sumD : List Ln → (Int → Bool) → Int → Int
  | [], _, _ => 0
  | x :: r, lf, h => (if lf x.h = false ∧ x.p = h then x.a.g else 0) + sumD r lf h
theorem sumD_congr {lf lg : Int → Bool} {h : Int} : ∀ {L : List Ln}, (∀ x ∈ L, lf x.h = lg x.h) → sumD L lf h = sumD L lg h
  | [], _ => rfl
  | x :: r, e => by
    unfold sumD
    rw [e x (by simp), sumD_congr (fun y hy => e y (by simp [hy]))]
theorem sumD_start {lf : Int → Bool} {h : Int} : ∀ {L : List Ln}, (∀ x ∈ L, lf x.h = true) → sumD L lf h = 0
  | [], _ => rfl
  | x :: r, e => by
    unfold sumD
    rw [e x (by simp), sumD_start (fun y hy => e y (by simp [hy])), if_neg (by simp)]
    rfl
theorem sumD_end {lf : Int → Bool} {h : Int} : ∀ {L : List Ln}, (∀ x ∈ L, lf x.h = false) → sumD L lf h = sumP L h
  | [], _ => rfl
  | x :: r, e => by
    unfold sumD sumP
    rw [e x (by simp), sumD_end (fun y hy => e y (by simp [hy]))]
    simp
theorem sumD_step {lf : Int → Bool} {h : Int} {y : Ln} (hl : lf y.h = true) : ∀ {L : List Ln}, Nd L → y ∈ L → sumD L (fun z => lf z && !decide (z = y.h)) h = sumD L lf h + (if y.p = h then y.a.g else 0)
  | [], _, hy => by cases hy
  | x :: r, hn, hy => by
    unfold Nd at hn
    rw [List.map_cons, List.nodup_cons] at hn
    unfold sumD
    rcases List.mem_cons.1 hy with rfl | hy
    · rw [sumD_congr (lg := lf) (L := r) (fun z hz => by
        have : z.h ≠ y.h := fun e => hn.1 (by rw [← e]; exact List.mem_map_of_mem hz)
        simp [this])]
      simp [hl]
      omega
    · have : x.h ≠ y.h := fun e => hn.1 (by rw [e]; exact List.mem_map_of_mem hy)
      rw [sumD_step hl hn.2 hy]
      simp [this]
      omega

abbrev ST : TypeId := 54
set_option maxHeartbeats 2000000 in
set_option maxRecDepth 100000 in
theorem peven (w : World) (b mb : Nat) (L : List Ln) (h : PBk w b mb L) (hl : L.length ≤ 100000) (hn : Nd L) (hwf : ∀ x ∈ L, I64 x.h ∧ I64 x.p) :
    Calls Try.prog 10 #[.pointer (some ⟨b, 0, none⟩)] w fun e w' => e = .returned (.bool (evenB L)) ∧ Below w.heap.size w w' := by
  have hmm := @run_makeMap Try.prog
  have hlt := h.lt
  have hw := has_cell h.blk 0
  simp only [List.getElem?_toArray, List.getElem?_cons_zero] at hw
  have HM := Lib.hid (h.map.below ((Below.refl _ w).alloc (Nat.le_refl _) (.map #[] 0)))
  have HN := Lib.hid hn
  have HWF := Lib.hid hwf
  have HBK := Lib.hid h
  have HS0 := Lib.hid (VMap.new (P := Try.prog) (k := HT) w)
  clear h hn hwf
  go_enter Try.func10, Try.ntmps10
  go_wp2_with (at_range; refine wpList_vrange rfl _ _ rfl _ _ keyH Try.underlying44 Try.underlying25 mb L.length (FL L) rfl HM.out ?_; intro w0 hr0 hg0 hs0)
  go_frame
  have hRs : (w.alloc (.map #[] 0)).heap.size = w.heap.size + 1 := by simp
  have HB0 := Lib.hid (bnext ((Below.refl _ w).alloc (Nat.le_refl _) (.map #[] 0)) (below_of_grown hg0))
  have HM0 := Lib.hid (HS0.out.kept hg0 (by simp))
  generalize (w.alloc (.map #[] 0)).heap.size = R at hr0 hRs hs0 ⊢
  have hR1 : R ≠ w.heap.size := by omega
  have hR2 : mb ≠ w.heap.size := by omega
  have hR3 : w.heap.size ≤ R := by omega
  clear hg0 HM HS0 hRs
  go_loopw [5] (fun _ wr => ∃ (lf : Int → Bool) (cnt : Nat) (F : Int → Option Value) (n2 : Nat), VRange Try.prog HT wr mb R (FL L) lf cnt ∧ Hid (VMap Try.prog HT wr w.heap.size F n2) ∧ n2 + cnt ≤ L.length ∧ Hid (∀ h, I64 h → (F h).getD (.int .i64 0) = .int .i64 (wrap64 (sumD L lf h))) ∧ Hid (Below w.heap.size w wr)) (fun _ wr => wr.rangeLeft mb R)
  case atStart =>
    refine ⟨_, _, _, _, hr0, HM0, by omega, Lib.hid (fun h _ => ?_), HB0⟩
    rw [sumD_start (fun x hx => by rw [isSome_FL, get_mem HN.out hx]; rfl)]
    unfold wrap64; rfl
  case round =>
    obtain ⟨lf, cnt, F, n2, hr, HM, hn2, HF, HB⟩ := hrel
    clear hr0 hs0 HM0 HB0
    go_wp2_with (at_next; refine wpList_pnext rfl _ rfl mb R L _ _ rfl hr ?_ ?_)
    · intro hl0
      have HE := Lib.hid (show ∀ h, I64 h → (F h).getD (.int .i64 0) = .int .i64 (wrap64 (sumP L h)) from fun h hh => by
        rw [HF.out h hh, sumD_end (fun x hx => hl0 _ (HWF.out x hx).1)])
      clear hl0 HF hr
      have hw1 := has_cell (HBK.out.below HB.out).blk 0
      simp only [List.getElem?_toArray, List.getElem?_cons_zero] at hw1
      have HMB := Lib.hid (HBK.out.below HB.out).map
      go_wp2_with (at_range; refine wpList_vrange rfl _ _ rfl _ _ keyH Try.underlying44 Try.underlying25 mb L.length (FL L) rfl HMB.out ?_; intro w0 hr0 hg0 hs0)
      go_frame
      have hR5 := HM.out.lt
      have HB0 := Lib.hid (bnext HB.out (below_of_grown hg0))
      have HM0 := Lib.hid (HM.out.kept hg0 (by simp))
      generalize wr.heap.size = R4 at hr0 hs0 hR5 ⊢
      have hR6 : R4 ≠ w.heap.size := by omega
      have hR7 : w.heap.size ≤ R4 := by omega
      clear hg0 HM HMB HB hw1 hR5 hs0
      go_loopw [6, 7] (fun _ _ wr => ∃ (lf : Int → Bool) (cnt : Nat), VRange Try.prog HT wr mb R4 (FL L) lf cnt ∧ Hid (VMap Try.prog HT wr w.heap.size F n2) ∧ Hid (∀ x ∈ L, lf x.h = false → evenX L x = true) ∧ Hid (Below w.heap.size w wr)) (fun _ _ wr => wr.rangeLeft mb R4)
      case atStart =>
        refine ⟨_, _, hr0, HM0, Lib.hid (fun x hx hf => ?_), HB0⟩
        rw [isSome_FL, get_mem HN.out hx] at hf
        cases hf
      case round =>
        obtain ⟨lf, cnt, hr, HM, HX, HB⟩ := hrel
        clear hr0 HM0 HB0
        go_wp2_with (at_next; refine wpList_pnext rfl _ rfl mb R4 L _ _ rfl hr ?_ ?_)
        · intro hl0
          have HZ := Lib.hid (show evenB L = true from List.all_eq_true.2 fun x hx => HX.out x hx (hl0 _ (HWF.out x hx).1))
          clear hl0 HX hr
          go_wp2_with fail
          go_ret
          exact ⟨ret_bool HZ.out.symm, HB.out⟩
        · intro y w1 cnt1 hy64 hy hly hr1 hlt1 hg1 hs1 hen
          have HB1 := Lib.hid (HB.out.grown hg1 HB.out.size (fun j e => by cases e; exact hR7))
          have HM1 := Lib.hid (HM.out.kept hg1 (by simp; exact fun e => hR6 e.symm))
          have HM2 := Lib.hid (HM1.out.kept (World.grownBy_alloc w1 (.cells #[.int .i64 y.p, .int .i64 y.a.g, .int .i64 y.a.o, .int .i64 y.a.l, .int .i64 y.a.d, .int .i64 y.a.c, .int .i64 y.a.t, .int .i64 y.c.g, .int .i64 y.c.o, .int .i64 y.c.l, .int .i64 y.c.d, .int .i64 y.c.c, .int .i64 y.c.t] 43) none) (by simp))
          have HR2 := Lib.hid (hr1.alloc (.cells #[.int .i64 y.p, .int .i64 y.a.g, .int .i64 y.a.o, .int .i64 y.a.l, .int .i64 y.a.d, .int .i64 y.a.c, .int .i64 y.a.t, .int .i64 y.c.g, .int .i64 y.c.o, .int .i64 y.c.l, .int .i64 y.c.d, .int .i64 y.c.c, .int .i64 y.c.t] 43))
          have hrunL := HM2.out.look_get keyH Try.underlying54 Try.underlying25 (zeroInt _) hy64 (HE.out y.h hy64)
          have hm := hr.left_eq
          have HEV := Lib.hid (show evenX L y = decide (wrap64 (wrap64 (y.a.o + y.c.g) + wrap64 (sumP L y.h)) = y.a.g ∧ ¬ y.a.l > y.a.o ∧ y.c.o = y.c.g) from by unfold evenX; rw [wrap_right, wrap_wrap])
          have HNO := Lib.hid (show evenX L y = false → evenB L = false from fun h => by
            unfold evenB
            rw [List.all_eq_false]
            exact ⟨y, (get_some hy).2, by rw [h]; decide⟩)
          have HYES := Lib.hid (show evenX L y = true → ∀ x ∈ L, (lf x.h && !decide (x.h = y.h)) = false → evenX L x = true from fun he x hx hf => by
            by_cases e : x.h = y.h
            · have := get_mem HN.out hx
              rw [e, hy] at this
              cases this
              exact he
            · exact HX.out x hx (by simpa [e] using hf))
          clear hr1 hr hg1 hy hly HM HM1 HX
          generalize wrap64 (sumP L y.h) = s at hrunL HEV
          generalize evenX L y = ev at HEV HNO HYES
          obtain ⟨yh, yp, ⟨yg, yo, yl, yd, yc, yt⟩, ⟨kg, ko, kl, kd, kc, kt⟩⟩ := y
          dsimp only at hen HM2 HR2 hrunL HEV HYES hy64
          by_cases h1 : yg = wrap64 (wrap64 (yo + kg) + s)
          · subst h1
            by_cases h2 : yl > yo
            · have z2 : decide (yl > yo) = true := decide_eq_true h2
              have HR := Lib.hid (HNO.out (by rw [HEV.out]; exact decide_eq_false (fun hh => hh.2.1 h2)))
              clear HEV HNO HYES
              go_wp2_with (at_lookup; refine wpList_vlook rfl _ _ _ false rfl w.heap.size rfl _ _ rfl hrunL ?_)
              go_ret
              exact ⟨ret_bool HR.out.symm, below_alloc HB1.out _⟩
            · have z2 : decide (yl > yo) = false := decide_eq_false h2
              by_cases h3 : ko = kg
              · subst h3
                have HR := Lib.hid (HYES.out (by rw [HEV.out]; exact decide_eq_true ⟨rfl, h2, rfl⟩))
                clear HEV HNO HYES
                go_wp2_with (at_lookup; refine wpList_vlook rfl _ _ _ false rfl w.heap.size rfl _ _ rfl hrunL ?_)
                go_roundw
                case rel => exact ⟨_, cnt1, HR2.out, HM2, HR, Lib.hid (below_alloc HB1.out _)⟩
                case measure => rw [hm, HR2.out.left_eq]; exact hlt1
              · have z3 : (ko == kg) = false := by simpa using h3
                have HR := Lib.hid (HNO.out (by rw [HEV.out]; exact decide_eq_false (fun hh => h3 hh.2.2)))
                clear HEV HNO HYES h3
                go_wp2_with (at_lookup; refine wpList_vlook rfl _ _ _ false rfl w.heap.size rfl _ _ rfl hrunL ?_)
                go_ret
                exact ⟨ret_bool HR.out.symm, below_alloc HB1.out _⟩
          · have HR := Lib.hid (HNO.out (by rw [HEV.out]; exact decide_eq_false (fun hh => h1 hh.1.symm)))
            clear HEV HNO HYES
            go_wp2_with (at_lookup; refine wpList_vlook rfl _ _ _ false rfl w.heap.size rfl _ _ rfl hrunL ?_)
            go_ret
            exact ⟨ret_bool HR.out.symm, below_alloc HB1.out _⟩
    · intro y w1 cnt1 hy64 hy hly hr1 hlt1 hg1 hs1 hen
      have hyp := (HWF.out y (get_some hy).2).2
      have HB1 := Lib.hid (HB.out.grown hg1 HB.out.size (fun j e => by cases e; exact hR3))
      have HM1 := Lib.hid (HM.out.kept hg1 (by simp; exact fun e => hR1 e.symm))
      have HM2 := Lib.hid (HM1.out.kept (World.grownBy_alloc w1 (.cells #[.int .i64 y.p, .int .i64 y.a.g, .int .i64 y.a.o, .int .i64 y.a.l, .int .i64 y.a.d, .int .i64 y.a.c, .int .i64 y.a.t, .int .i64 y.c.g, .int .i64 y.c.o, .int .i64 y.c.l, .int .i64 y.c.d, .int .i64 y.c.c, .int .i64 y.c.t] 43) none) (by simp))
      have HR2 := Lib.hid (hr1.alloc (.cells #[.int .i64 y.p, .int .i64 y.a.g, .int .i64 y.a.o, .int .i64 y.a.l, .int .i64 y.a.d, .int .i64 y.a.c, .int .i64 y.a.t, .int .i64 y.c.g, .int .i64 y.c.o, .int .i64 y.c.l, .int .i64 y.c.d, .int .i64 y.c.c, .int .i64 y.c.t] 43))
      have hrunL := HM2.out.look_get keyH Try.underlying54 Try.underlying25 (zeroInt _) hyp (HF.out y.p hyp)
      have HY := Lib.hid (get_some hy).2
      have HST := Lib.hid (fun h => sumD_step (h := h) hly HN.out (get_some hy).2)
      have hm := hr.left_eq
      clear hr1 hr hg1 hy hly HM HM1
      go_wp2_with (first
        | (at_lookup; refine wpList_vlook rfl _ _ _ false rfl w.heap.size rfl _ _ rfl hrunL ?_)
        | (at_mapUpdate; refine wpList_vput rfl _ _ _ _ rfl _ _ keyH Try.underlying54 Try.underlying25 w.heap.size n2 F rfl HM2.out (by unfold maxLen; omega) y.p (.int .i64 (wrap64 (wrap64 (sumD L lf y.p) + y.a.g))) rfl rfl hyp ?_; intro w3 hm3 hg3; go_frame))
      have HR3 := Lib.hid (HR2.out.kept hg3 (by simp; exact hR2) (by simp; exact hR1))
      have HB3 := Lib.hid ((below_alloc HB1.out (.cells #[.int .i64 y.p, .int .i64 y.a.g, .int .i64 y.a.o, .int .i64 y.a.l, .int .i64 y.a.d, .int .i64 y.a.c, .int .i64 y.a.t, .int .i64 y.c.g, .int .i64 y.c.o, .int .i64 y.c.l, .int .i64 y.c.d, .int .i64 y.c.c, .int .i64 y.c.t] 43)).grown hg3 (below_alloc HB1.out (.cells #[.int .i64 y.p, .int .i64 y.a.g, .int .i64 y.a.o, .int .i64 y.a.l, .int .i64 y.a.d, .int .i64 y.a.c, .int .i64 y.a.t, .int .i64 y.c.g, .int .i64 y.c.o, .int .i64 y.c.l, .int .i64 y.c.d, .int .i64 y.c.c, .int .i64 y.c.t] 43)).size (fun j e => by cases e; exact Nat.le_refl _))
      have HM3 := Lib.hid hm3
      clear hm3 hg3
      go_roundw
      case rel =>
        refine ⟨_, cnt1, _, _, HR3.out, HM3, ?_, Lib.hid (fun h hh => ?_), HB3⟩
        · split <;> omega
        · rw [HST.out h]
          by_cases e : h = y.p
          · subst e
            rw [if_pos rfl, if_pos rfl]
            exact congrArg (Value.int .i64) (wrap_wrap _ _)
          · rw [if_neg e, if_neg (fun k => e k.symm), Int.add_zero]
            exact HF.out h hh
      case measure => rw [hm, HR3.out.left_eq]; exact hlt1
end Go.Proofs.Ytdbfjcdglcagaaa
