/- The law LedgerEven, walked for any list of acts: it answers true; no condition. -/
import Derived.Test.YtdbfjcdglcagaaaPEvM
import Derived.Test.YtdbfjcdglcagaaaPSure
import Derived.Test.YtdbfjcdglcagaaaPLoadOp
import Derived.Test.YtdbfjcdglcagaaaPEven
import Derived.Test.YtdbfjcdglcagaaaPCharge
import Derived.Test.YtdbfjcdglcagaaaPClose
import Derived.Test.YtdbfjcdglcagaaaPNote
import Derived.Test.YtdbfjcdglcagaaaPApp
namespace Go.Proofs.Ytdbfjcdglcagaaa
open Go.RowKit Go.Maps Bk

theorem numL_cons (g : Nat → Int) (n : Nat) (x : Int) : [Value.int .i64 x] ++ numL g n = numL (fun j => if j = 0 then x else g (j - 1)) (n + 1) := by
  unfold numL lst
  rw [List.range_succ_eq_map, List.map_cons, List.map_map]
  simp
/-- The parents that the law keeps, by their handles less one. -/
structure UpIs (m : Nat) (f : Nat → Int) : Prop where
  one : 1 ≤ m
  few : m ≤ 40
  lo : ∀ j, j < m → 0 ≤ f j ∧ f j ≤ j
theorem UpIs.more {m : Nat} {f : Nat → Int} (h : UpIs m f) (hm : m < 40) {k : Int} (h0 : 0 ≤ k) (hk : k ≤ m) : UpIs (m + 1) (fun j => if j = m then k else f j) := by
  refine ⟨by omega, by omega, fun j hj => ?_⟩
  show 0 ≤ (if j = m then k else f j) ∧ (if j = m then k else f j) ≤ j
  by_cases e : j = m
  · rw [if_pos e]; omega
  · rw [if_neg e]; exact h.lo j (by omega)
theorem numL_more (f : Nat → Int) (m : Nat) (k : Int) : numL f m ++ [Value.int .i64 k] = numL (fun j => if j = m then k else f j) (m + 1) := by
  rw [numL_succ, if_pos rfl]
  congr 1
  exact numL_congr fun i hi => (if_neg (by omega)).symm
theorem mod_nat (x : Int) {m : Nat} (h : 1 ≤ m) (hm : m ≤ 40) : ∃ kk : Nat, wrap64 ((IntKind.u64.wrap x).tmod (m : Int)) = (kk : Int) ∧ kk < m := by
  have h0 : 0 ≤ IntKind.u64.wrap x ∧ IntKind.u64.wrap x < 18446744073709551616 := by
    have e : IntKind.u64.wrap x = x % 18446744073709551616 := by simp [IntKind.wrap, IntKind.bits, IntKind.signed]
    rw [e]; omega
  obtain ⟨y, hy⟩ : ∃ y, y = IntKind.u64.wrap x := ⟨_, rfl⟩
  rw [← hy] at h0 ⊢
  rw [Int.tmod_eq_emod_of_nonneg h0.1]
  have h1 := Int.emod_nonneg y (b := (m : Int)) (by omega)
  have h2 := Int.emod_lt_of_pos y (b := (m : Int)) (by omega)
  generalize y % (m : Int) = z at h1 h2 ⊢
  exact ⟨z.toNat, by rw [Int.toNat_of_nonneg h1]; unfold wrap64; omega, by omega⟩
/-- The root's account of a book that is even. -/
theorem of_root {w : World} {b mb : Nat} {L : List Ln} {N M : Int} (hp : PBk w b mb L) (h : Ev L N M) : ∃ (o l d c t : Int) (cc : Ac),
    Calls Try.prog 9 #[.pointer (some ⟨b, 0, none⟩), .int .i64 1] w fun e w' => e = .returned (.tuple #[aV ⟨N, o, l, d, c, t⟩, aV cc, .nilIface]) ∧ Below w.heap.size w w' := by
  obtain ⟨r, hr1, _, hr3⟩ := h.rt
  have hh := pof w b mb L hp 1 (by unfold I64; omega)
  unfold ofA ofC ofE at hh
  rw [hr1] at hh
  refine ⟨r.a.o, r.a.l, r.a.d, r.a.c, r.a.t, r.c, ?_⟩
  rw [← hr3]
  exact hh
theorem even_root {w : World} {b mb : Nat} {L : List Ln} {N M : Int} (hp : PBk w b mb L) (h : Ev L N M) (hM : M ≤ 1000000) (hl : L.length ≤ 100000) :
    Calls Try.prog 10 #[.pointer (some ⟨b, 0, none⟩)] w fun e w' => e = .returned (.bool true) ∧ Below w.heap.size w w' := by
  have hh := peven w b mb L hp hl h.iv.inv.nd h.iv.inv.wf
  rw [h.even hM] at hh
  exact hh
theorem src_one {W : World} {g : Nat} {T : TypeId} {x : Value} (h : Has W g (.cells #[x] T)) : SrcH W (.slice (some ⟨g, 0, none⟩) 1 1) 1 [x] := by
  refine ⟨_, _, rfl, rfl, fun j y hy => ⟨g, 0, rfl, ?_⟩⟩
  match j, hy with
  | 0, hy => cases hy; exact has_cell h 0
  | _ + 1, hy => cases hy
theorem one_one (x : Int) : ∀ u ∈ [Value.int .i64 x], u.oneCell' = true := by intro u hu; simp at hu; subst hu; rfl
theorem errV_zero : errV 0 = .nilIface := rfl
/-- The parents' row grown. -/
theorem up_grown {w w1 wA : World} {b mb m cu : Nat} {L : List Ln} {pu : Option Addr} {f : Nat → Int} (hp : PBk w1 b mb L) (ho : w1.ownsRow w.heap.size HT 1 (.slice pu m cu) m (numL f m)) (hb : Below w.heap.size w w1) (hm : 1 ≤ m) (hg : w1.grownBy wA (Value.slice pu m cu).ownBlock) : PBk wA b mb L ∧ Below w.heap.size w wA := by
  obtain ⟨g, cap, cur, e, hB, hc⟩ := own_block ho (by omega)
  cases e
  have hk : Keeps (fun x => x = g) w1 wA := (Keeps.of_below (S := fun x => x = g) (Below.refl _ w1)).grown hg (fun k e => .inl (by simpa [Value.ownBlock] using e.symm))
  refine ⟨hp.keeps hk (fun e => ?_) (fun e => ?_), hb.grown hg hb.size (fun k e => ?_)⟩
  · have hh := hp.blk
    have e : b = g := e
    unfold Has at hh
    rw [e, hc] at hh
    injection hh with hh
    injection hh with _ hh
    exact absurd hh (by decide)
  · obtain ⟨es, clock, hmm⟩ := hp.map.shape
    have e : mb = g := e
    rw [e, hc] at hmm
    cases hmm
  · simp [Value.ownBlock] at e
    omega
set_option maxHeartbeats 2000000 in
set_option maxRecDepth 100000 in
theorem even_any (u : Value) (n : Nat) (T : Nat → Oy) (w : World) (hu : OpsIn w u n T) :
    Calls Try.prog 3 #[u] w fun e w' => e = .returned (.bool true) ∧ Below w.heap.size w w' := by
  have HN := Lib.hid (pnew w 1 (show I64 1 from by unfold I64; omega) (by decide))
  have HS := Lib.hid sure_any
  have HU := Lib.hid (fun W (hb : Below w.heap.size w W) => hu.below hb)
  obtain ⟨p, cap, rfl, hn, hc⟩ := hu
  clear hc
  go_enter Try.func3, Try.ntmps3
  go_wp2_with fail
  refine HN.out.mono ?_
  rintro e w1 ⟨b, mb, rfl, hbk, hb1, hm0, hw1⟩
  have HB1 := Lib.hid hw1
  have HBK := Lib.hid hbk
  clear hbk hw1
  go_wp2_with fail
  have HU0 := Lib.hid (show (w1.alloc (.cells #[.int .i64 0] HT)).ownsRow w.heap.size HT 1 (.slice (some ⟨w1.heap.size, 0, none⟩) 1 1) 1 (numL (fun _ => 0) 1) from World.ownsRow_lit w1 #[.int .i64 0] 1 HB1.out.size (by unfold maxLen; omega) rfl)
  have HB2 := Lib.hid (below_alloc HB1.out (.cells #[.int .i64 0] HT))
  have HP2 := Lib.hid (HBK.out.below (below_alloc (Below.refl _ w1) (.cells #[.int .i64 0] HT)))
  generalize w1.alloc (.cells #[.int .i64 0] HT) = w2 at HU0 HB2 HP2 ⊢
  clear HB1 HBK
  go_loopw [4, 5, 6] (fun uv nv iv wr => ∃ (i m : Nat) (f : Nat → Int) (N : Int) (L : List Ln), iv = .int .i64 i ∧ nv = .int .i64 N ∧ i ≤ n ∧ i ≤ 200 ∧ 0 ≤ N ∧ N ≤ i ∧ L.length ≤ i + 1 ∧ UpIs m f ∧ Hid (PBk wr b mb L) ∧ Hid (Ev L N (41 * (i : Int))) ∧ Hid (wr.ownsRow w.heap.size HT 1 uv m (numL f m)) ∧ Hid (Below w.heap.size w wr)) (fun _ _ iv _ => n - (intOf iv).toNat)
  case atStart => exact ⟨0, 1, fun _ => 0, 0, _, rfl, rfl, Nat.zero_le _, by omega, by omega, by omega, by simp, ⟨by omega, by omega, fun j hj => ⟨Int.le_refl _, by omega⟩⟩, HP2, Lib.hid ev_new, HU0, HB2⟩
  case round =>
    obtain ⟨i, m, f, N, L, rfl, rfl, hi, hi2, hN0, hN1, hL, hup, HP, HE, HF, HB⟩ := hrel
    clear HU0 HB2 HP2
    by_cases hin : i < n
    · by_cases hi3 : i < 200
      · have hin' : (i : Int) < (n : Int) := by omega
        have hi3' : (i : Int) < 200 := by omega
        obtain ⟨p', cap', e', _, hcc⟩ := HU.out wr HB.out
        cases e'
        obtain ⟨⟨g, off, rfl, c0, _, _, _, c4, c5, _⟩, hok⟩ := hcc i hin
        clear hcc
        generalize T i = o at c0 c4 c5 hok
        obtain ⟨pu, cu, rfl, hcu⟩ := own_small HF.out
        have hm1 := hup.one
        have hm2 := hup.few
        obtain ⟨kk, hkk, hkm⟩ := mod_nat o.n hm1 hm2
        have hmb1 := hm0
        generalize o.kind = q at c0
        by_cases k0 : q = 0
        · subst k0
          by_cases hm40 : m < 40
          · have hm40' : (m : Int) < 40 := by omega
            have HPN := Lib.hid (popen wr b mb L HP.out (by omega) ((m : Int) + 1) ((kk : Int) + 1) (by unfold I64; omega) (by unfold I64; omega))
            have HE4 := Lib.hid ((ev_open HE.out (by omega) (k := (m : Int) + 1) (p := (kk : Int) + 1) (by unfold I64; omega) (by unfold I64; omega)).mono (m' := 41 * ((i + 1 : Nat) : Int)) (by omega))
            have hL4 := open_len L ((m : Int) + 1) ((kk : Int) + 1)
            generalize openB L ((m : Int) + 1) ((kk : Int) + 1) = L4 at HPN HE4 hL4
            generalize openE L ((m : Int) + 1) ((kk : Int) + 1) = en at HPN
            by_cases hen : en = 0
            · subst hen
              go_wp2_with fail
              refine HPN.out.mono ?_
              rintro e w4 ⟨rfl, hp4, hk4⟩
              have HP4 := Lib.hid hp4
              have HF4 := Lib.hid (own_turn HF.out HP.out.map hk4)
              have HB4 := Lib.hid (below_keeps HB.out hk4 (fun x e => by rw [e]; exact hmb1))
              clear hp4 hk4
              simp only [errV_zero]
              go_wp2_with (at_builtin; refine wpList_append_hans rfl _ _ rfl w.heap.size (.slice pu m cu) m (numL f m) rfl (HF4.out.kept (World.grownBy_alloc _ _ none) (Classical.em _)) (.slice (some ⟨w4.heap.size, 0, none⟩) 1 1) 1 [.int .i64 ((kk : Int) + 1)] rfl (src_one (has_new _ _ _ rfl)) (one_one _) (by omega) (below_alloc HB4.out _).size ?_)
              intro pA cA wA hoA hgA hxA
              clear hxA
              obtain ⟨hpA, hbA⟩ := up_grown (HP4.out.below (below_alloc (Below.refl _ w4) _)) (HF4.out.kept (World.grownBy_alloc _ _ none) (Classical.em _)) (below_alloc HB4.out _) hm1 hgA
              have HPA := Lib.hid hpA
              have HBA := Lib.hid hbA
              rw [numL_more] at hoA
              have HFA := Lib.hid hoA
              have hup4 := hup.more hm40 (k := (kk : Int) + 1) (by omega) (by omega)
              clear hpA hbA hoA hgA
              obtain ⟨ao, al, ad, ac, at4, cc, hof⟩ := of_root HPA.out HE4.out
              have HOF := Lib.hid hof
              clear hof
              have HEV := Lib.hid (fun W (hb : Below wA.heap.size wA W) => even_root (HPA.out.below hb) HE4.out (by omega) (by omega))
              go_wp2_with fail
              refine HOF.out.mono ?_
              rintro e w5 ⟨rfl, hb5⟩
              obtain ⟨W7, hW7⟩ : ∃ W7, W7 = (w5.alloc (.cells #[.int .i64 N, .int .i64 ao, .int .i64 al, .int .i64 ad, .int .i64 ac, .int .i64 at4] 29)).alloc (.cells #[.int .i64 cc.g, .int .i64 cc.o, .int .i64 cc.l, .int .i64 cc.d, .int .i64 cc.c, .int .i64 cc.t] 29) := ⟨_, rfl⟩
              have HB7 := Lib.hid (show Below wA.heap.size wA W7 from by rw [hW7]; exact below_alloc (below_alloc hb5 _) _)
              obtain ⟨a0, a1, a2, a3, a4, a5⟩ := acc6 (a := ⟨N, ao, al, ad, ac, at4⟩) (show Has W7 w5.heap.size (.cells #[.int .i64 N, .int .i64 ao, .int .i64 al, .int .i64 ad, .int .i64 ac, .int .i64 at4] 29) from by rw [hW7]; exact has_old (has_new _ _ _ rfl) _)
              clear hb5
              subst hW7
              go_wp2_with fail
              refine (HEV.out _ HB7.out).mono ?_
              rintro e w8 ⟨rfl, hb8⟩
              have HB8 := Lib.hid (bnext HB7.out hb8)
              clear hb8 a0 a1 a2 a3 a4 a5
              go_wp2_with fail
              go_roundw
              case rel => exact ⟨i + 1, m + 1, _, N, L4, by go_num, rfl, by omega, by omega, by omega, by omega, by omega, hup4, Lib.hid (HPA.out.below HB8.out), HE4, Lib.hid (own_under HFA.out HB8.out), Lib.hid (bnext HBA.out HB8.out)⟩
              case measure => simp [intOf]; omega
            · skip
              go_wp2_with fail
              refine HPN.out.mono ?_
              rintro e w4 ⟨rfl, hp4, hk4⟩
              have HP4 := Lib.hid hp4
              have HF4 := Lib.hid (own_turn HF.out HP.out.map hk4)
              have HB4 := Lib.hid (below_keeps HB.out hk4 (fun x e => by rw [e]; exact hmb1))
              clear hp4 hk4
              rw [errV_ne hen]
              have hup4 := hup
              obtain ⟨ao, al, ad, ac, at4, cc, hof⟩ := of_root HP4.out HE4.out
              have HOF := Lib.hid hof
              clear hof
              have HEV := Lib.hid (fun W (hb : Below w4.heap.size w4 W) => even_root (HP4.out.below hb) HE4.out (by omega) (by omega))
              go_wp2_with fail
              refine HOF.out.mono ?_
              rintro e w5 ⟨rfl, hb5⟩
              obtain ⟨W7, hW7⟩ : ∃ W7, W7 = (w5.alloc (.cells #[.int .i64 N, .int .i64 ao, .int .i64 al, .int .i64 ad, .int .i64 ac, .int .i64 at4] 29)).alloc (.cells #[.int .i64 cc.g, .int .i64 cc.o, .int .i64 cc.l, .int .i64 cc.d, .int .i64 cc.c, .int .i64 cc.t] 29) := ⟨_, rfl⟩
              have HB7 := Lib.hid (show Below w4.heap.size w4 W7 from by rw [hW7]; exact below_alloc (below_alloc hb5 _) _)
              obtain ⟨a0, a1, a2, a3, a4, a5⟩ := acc6 (a := ⟨N, ao, al, ad, ac, at4⟩) (show Has W7 w5.heap.size (.cells #[.int .i64 N, .int .i64 ao, .int .i64 al, .int .i64 ad, .int .i64 ac, .int .i64 at4] 29) from by rw [hW7]; exact has_old (has_new _ _ _ rfl) _)
              clear hb5
              subst hW7
              go_wp2_with fail
              refine (HEV.out _ HB7.out).mono ?_
              rintro e w8 ⟨rfl, hb8⟩
              have HB8 := Lib.hid (bnext HB7.out hb8)
              clear hb8 a0 a1 a2 a3 a4 a5
              go_wp2_with fail
              go_roundw
              case rel => exact ⟨i + 1, m, f, N, L4, by go_num, rfl, by omega, by omega, by omega, by omega, by omega, hup4, Lib.hid (HP4.out.below HB8.out), HE4, Lib.hid (own_under HF4.out HB8.out), Lib.hid (bnext HB4.out HB8.out)⟩
              case measure => simp [intOf]; omega
          · have hm40' : ¬ (m : Int) < 40 := by omega
            obtain ⟨w4, hw4⟩ : ∃ w4, w4 = wr := ⟨_, rfl⟩
            subst hw4
            have hL4 := hL
            have hup4 := hup
            have HP4 := HP
            have HF4 := HF
            have HB4 := HB
            have HE4 := Lib.hid (HE.out.mono (m' := 41 * ((i + 1 : Nat) : Int)) (by omega))
            obtain ⟨ao, al, ad, ac, at4, cc, hof⟩ := of_root HP4.out HE4.out
            have HOF := Lib.hid hof
            clear hof
            have HEV := Lib.hid (fun W (hb : Below w4.heap.size w4 W) => even_root (HP4.out.below hb) HE4.out (by omega) (by omega))
            go_wp2_with fail
            refine HOF.out.mono ?_
            rintro e w5 ⟨rfl, hb5⟩
            obtain ⟨W7, hW7⟩ : ∃ W7, W7 = (w5.alloc (.cells #[.int .i64 N, .int .i64 ao, .int .i64 al, .int .i64 ad, .int .i64 ac, .int .i64 at4] 29)).alloc (.cells #[.int .i64 cc.g, .int .i64 cc.o, .int .i64 cc.l, .int .i64 cc.d, .int .i64 cc.c, .int .i64 cc.t] 29) := ⟨_, rfl⟩
            have HB7 := Lib.hid (show Below w4.heap.size w4 W7 from by rw [hW7]; exact below_alloc (below_alloc hb5 _) _)
            obtain ⟨a0, a1, a2, a3, a4, a5⟩ := acc6 (a := ⟨N, ao, al, ad, ac, at4⟩) (show Has W7 w5.heap.size (.cells #[.int .i64 N, .int .i64 ao, .int .i64 al, .int .i64 ad, .int .i64 ac, .int .i64 at4] 29) from by rw [hW7]; exact has_old (has_new _ _ _ rfl) _)
            clear hb5
            subst hW7
            go_wp2_with fail
            refine (HEV.out _ HB7.out).mono ?_
            rintro e w8 ⟨rfl, hb8⟩
            have HB8 := Lib.hid (bnext HB7.out hb8)
            clear hb8 a0 a1 a2 a3 a4 a5
            go_wp2_with fail
            go_roundw
            case rel => exact ⟨i + 1, m, f, N, L, by go_num, rfl, by omega, by omega, by omega, by omega, by omega, hup4, Lib.hid (HP4.out.below HB8.out), HE4, Lib.hid (own_under HF4.out HB8.out), Lib.hid (bnext HB4.out HB8.out)⟩
            case measure => simp [intOf]; omega
        · by_cases k1 : q = 1
          · subst k1
            obtain ⟨w3, hw3⟩ : ∃ x, x = wr := ⟨_, rfl⟩
            subst hw3
            obtain ⟨gu, cu', e', hcu2, _, _⟩ := own_block2 HF.out (by omega)
            cases e'
            go_wp2_with fail
            try rw [hkk]
            clear hkk
            go_loopw [8, 9] (fun pv hv wx => ∃ (hh len : Nat) (q : Nat → Int), hv = .int .i64 hh ∧ hh ≤ m ∧ len + hh ≤ 41 ∧ (∀ j, j < len → I64 (q j)) ∧ Hid (wx.ownsRow w.heap.size HT 1 pv len (numL q len)) ∧ Hid (Below w3.heap.size w3 wx)) (fun _ hv _ => (intOf hv).toNat)
            case atStart => exact ⟨kk + 1, 0, fun _ => 0, by go_num, by omega, by omega, fun j h => absurd h (Nat.not_lt_zero _), Lib.hid (World.ownsRow_nil _ _ _ _), Lib.hid (Below.refl _ _)⟩
            case round =>
              obtain ⟨hh, len, q, rfl, hh1, hh2, hq, HQ, HBx⟩ := hrel
              obtain ⟨pq, cq, rfl, hcq⟩ := own_small HQ.out
              cases hh with
              | zero =>
                have c5x := (HBx.out.cell (p := ⟨g, off + i * 18 + 5, none⟩) (cell_lt c5)).trans c5
                have HPN := Lib.hid (pcharge wr b mb L (HP.out.below HBx.out) (by omega) HE.out.iv.inv _ len q (own_hans HQ.out (by omega)) hq o.b)
                have HE5 := Lib.hid ((ev_charge HE.out (by omega) (N := len) (by omega) q o.b).mono (m' := 41 * ((i + 1 : Nat) : Int)) (by omega))
                have hL4 := charge_len L len q o.b
                generalize chargeB L len q o.b = L4 at HPN HE5 hL4
                generalize chargeE L len q = en at HPN HE5
                have HFx := Lib.hid (own_under HF.out HBx.out)
                have HPx := Lib.hid (HP.out.below HBx.out)
                have HBy := Lib.hid (bnext HB.out HBx.out)
                have hup4 := hup
                by_cases hen : en = 0
                · subst hen
                  have HE4 := Lib.hid (show Ev L4 (N + 1) (41 * ((i + 1 : Nat) : Int)) from by have hz := HE5.out; rw [if_pos rfl] at hz; exact hz)
                  go_wp2_with fail
                  refine HPN.out.mono ?_
                  rintro e w4 ⟨rfl, hp4, hk4⟩
                  have HP4 := Lib.hid hp4
                  have HF4 := Lib.hid (own_turn HFx.out HPx.out.map hk4)
                  have HB4 := Lib.hid (below_keeps HBy.out hk4 (fun x e => by rw [e]; exact hmb1))
                  clear hp4 hk4
                  simp only [errV_zero]
                  obtain ⟨ao, al, ad, ac, at4, cc, hof⟩ := of_root HP4.out HE4.out
                  have HOF := Lib.hid hof
                  clear hof
                  have HEV := Lib.hid (fun W (hb : Below w4.heap.size w4 W) => even_root (HP4.out.below hb) HE4.out (by omega) (by omega))
                  go_wp2_with fail
                  refine HOF.out.mono ?_
                  rintro e w5 ⟨rfl, hb5⟩
                  obtain ⟨W7, hW7⟩ : ∃ W7, W7 = (w5.alloc (.cells #[.int .i64 (N + 1), .int .i64 ao, .int .i64 al, .int .i64 ad, .int .i64 ac, .int .i64 at4] 29)).alloc (.cells #[.int .i64 cc.g, .int .i64 cc.o, .int .i64 cc.l, .int .i64 cc.d, .int .i64 cc.c, .int .i64 cc.t] 29) := ⟨_, rfl⟩
                  have HB7 := Lib.hid (show Below w4.heap.size w4 W7 from by rw [hW7]; exact below_alloc (below_alloc hb5 _) _)
                  obtain ⟨a0, a1, a2, a3, a4, a5⟩ := acc6 (a := ⟨N + 1, ao, al, ad, ac, at4⟩) (show Has W7 w5.heap.size (.cells #[.int .i64 (N + 1), .int .i64 ao, .int .i64 al, .int .i64 ad, .int .i64 ac, .int .i64 at4] 29) from by rw [hW7]; exact has_old (has_new _ _ _ rfl) _)
                  clear hb5
                  subst hW7
                  go_wp2_with fail
                  refine (HEV.out _ HB7.out).mono ?_
                  rintro e w8 ⟨rfl, hb8⟩
                  have HB8 := Lib.hid (bnext HB7.out hb8)
                  clear hb8 a0 a1 a2 a3 a4 a5
                  go_wp2_with fail
                  go_roundw
                  case rel => exact ⟨i + 1, m, f, N + 1, L4, by go_num, rfl, by omega, by omega, by omega, by omega, by omega, hup4, Lib.hid (HP4.out.below HB8.out), HE4, Lib.hid (own_under HF4.out HB8.out), Lib.hid (bnext HB4.out HB8.out)⟩
                  case measure => simp [intOf]; omega
                · have HE4 := Lib.hid (show Ev L4 N (41 * ((i + 1 : Nat) : Int)) from by have hz := HE5.out; rw [if_neg hen] at hz; exact hz)
                  go_wp2_with fail
                  refine HPN.out.mono ?_
                  rintro e w4 ⟨rfl, hp4, hk4⟩
                  have HP4 := Lib.hid hp4
                  have HF4 := Lib.hid (own_turn HFx.out HPx.out.map hk4)
                  have HB4 := Lib.hid (below_keeps HBy.out hk4 (fun x e => by rw [e]; exact hmb1))
                  clear hp4 hk4
                  rw [errV_ne hen]
                  obtain ⟨ao, al, ad, ac, at4, cc, hof⟩ := of_root HP4.out HE4.out
                  have HOF := Lib.hid hof
                  clear hof
                  have HEV := Lib.hid (fun W (hb : Below w4.heap.size w4 W) => even_root (HP4.out.below hb) HE4.out (by omega) (by omega))
                  go_wp2_with fail
                  refine HOF.out.mono ?_
                  rintro e w5 ⟨rfl, hb5⟩
                  obtain ⟨W7, hW7⟩ : ∃ W7, W7 = (w5.alloc (.cells #[.int .i64 N, .int .i64 ao, .int .i64 al, .int .i64 ad, .int .i64 ac, .int .i64 at4] 29)).alloc (.cells #[.int .i64 cc.g, .int .i64 cc.o, .int .i64 cc.l, .int .i64 cc.d, .int .i64 cc.c, .int .i64 cc.t] 29) := ⟨_, rfl⟩
                  have HB7 := Lib.hid (show Below w4.heap.size w4 W7 from by rw [hW7]; exact below_alloc (below_alloc hb5 _) _)
                  obtain ⟨a0, a1, a2, a3, a4, a5⟩ := acc6 (a := ⟨N, ao, al, ad, ac, at4⟩) (show Has W7 w5.heap.size (.cells #[.int .i64 N, .int .i64 ao, .int .i64 al, .int .i64 ad, .int .i64 ac, .int .i64 at4] 29) from by rw [hW7]; exact has_old (has_new _ _ _ rfl) _)
                  clear hb5
                  subst hW7
                  go_wp2_with fail
                  refine (HEV.out _ HB7.out).mono ?_
                  rintro e w8 ⟨rfl, hb8⟩
                  have HB8 := Lib.hid (bnext HB7.out hb8)
                  clear hb8 a0 a1 a2 a3 a4 a5
                  go_wp2_with fail
                  go_roundw
                  case rel => exact ⟨i + 1, m, f, N, L4, by go_num, rfl, by omega, by omega, by omega, by omega, by omega, hup4, Lib.hid (HP4.out.below HB8.out), HE4, Lib.hid (own_under HF4.out HB8.out), Lib.hid (bnext HB4.out HB8.out)⟩
                  case measure => simp [intOf]; omega
              | succ hp =>
                obtain ⟨y, hy⟩ : ∃ y : Nat, f hp = y := ⟨(f hp).toNat, by have := hup.lo hp (by omega); omega⟩
                have hy2 : y ≤ hp := by have := hup.lo hp (by omega); omega
                go_wp2_with (at_builtin; refine wpList_append_hans rfl _ _ rfl w.heap.size (.slice none 0 0) 0 [] rfl (World.ownsRow_nil _ _ _ _) (.slice (some ⟨wr.heap.size, 0, none⟩) 1 1) 1 [.int .i64 ((hp : Int) + 1)] rfl (src_one (has_new _ _ _ rfl)) (one_one _) (by omega) (below_alloc (bnext HB.out HBx.out) _).size ?_)
                intro pA cA wA hoA hgA hxA
                obtain ⟨ga, ca, ea, _, _, _⟩ := own_block2 hoA (by omega)
                cases ea
                have hga : wr.heap.size + 1 ≤ ga := by rcases hxA ga rfl with e | e; (· simp [Value.ownBlock] at e); exact e
                have HBA := Lib.hid ((below_alloc HBx.out (.cells #[.int .i64 ((hp : Int) + 1)] HT)).grown hgA (below_alloc HBx.out _).size (fun k e => by simp [Value.ownBlock] at e))
                have HQA := Lib.hid (src_nums (own_hans ((HQ.out.kept (World.grownBy_alloc _ (.cells #[.int .i64 ((hp : Int) + 1)] HT) none) (Classical.em _)).kept (row := none) hgA (Classical.em _)) (by omega)))
                have HOA := Lib.hid hoA
                have hsz := HBx.out.size
                clear hxA hoA hgA
                go_wp2_with (at_builtin; refine wpList_append_hans rfl _ _ rfl w.heap.size (.slice (some ⟨ga, 0, none⟩) 1 cA) 1 [.int .i64 ((hp : Int) + 1)] rfl HOA.out (.slice pq len cq) len (numL q len) rfl HQA.out (numL_one _ _) (by omega) (bnext HB.out HBA.out).size ?_)
                intro pB cB wB hoB hgB hxB
                have HBB := Lib.hid (HBA.out.grown hgB HBA.out.size (fun k e => by simp [Value.ownBlock] at e; omega))
                have cu1 : wB.cell? ⟨gu, hp, none⟩ = some (.int .i64 (y : Int)) := by
                  have h := World.ownsRow.cellAt (own_under HF.out HBB.out) hp (by omega)
                  rw [h]; unfold numL; rw [lst_at (by omega), hy]
                have HOB := Lib.hid (show wB.ownsRow w.heap.size HT 1 (.slice pB (1 + len) cB) (1 + len) (numL (fun j => if j = 0 then (hp : Int) + 1 else q (j - 1)) (1 + len)) from by rw [Nat.add_comm 1 len, ← numL_cons, Nat.add_comm len 1]; exact hoB)
                clear hoB hgB hxB
                go_wp2_with fail
                go_roundw
                case rel => exact ⟨y, 1 + len, _, by go_num, by omega, by omega, fun j hj => by show I64 (if j = 0 then (hp : Int) + 1 else q (j - 1)); split; (· unfold I64; omega); exact hq _ (by omega), HOB, HBB⟩
                case measure => simp [intOf]; omega
          · by_cases k2 : q = 2
            · subst k2
              have HPN := Lib.hid (pnote wr b mb L HP.out (by omega) HE.out.iv.inv.dc ((kk : Int) + 1) (by unfold I64; omega) 8 o.b)
              have HE4 := Lib.hid ((ev_note HE.out ((kk : Int) + 1) 8 o.b).mono (m' := 41 * ((i + 1 : Nat) : Int)) (by omega))
              have hL4 := note_len L ((kk : Int) + 1) 8 o.b
              generalize noteB L ((kk : Int) + 1) 8 o.b = L4 at HPN HE4 hL4
              generalize noteE L ((kk : Int) + 1) 8 = en at HPN
              go_wp2_with fail
              refine HPN.out.mono ?_
              rintro e w4 ⟨rfl, hp4, hk4⟩
              have HP4 := Lib.hid hp4
              have HF4 := Lib.hid (own_turn HF.out HP.out.map hk4)
              have HB4 := Lib.hid (below_keeps HB.out hk4 (fun x e => by rw [e]; exact hmb1))
              clear hp4 hk4
              have hup4 := hup
              obtain ⟨ao, al, ad, ac, at4, cc, hof⟩ := of_root HP4.out HE4.out
              have HOF := Lib.hid hof
              clear hof
              have HEV := Lib.hid (fun W (hb : Below w4.heap.size w4 W) => even_root (HP4.out.below hb) HE4.out (by omega) (by omega))
              go_wp2_with fail
              refine HOF.out.mono ?_
              rintro e w5 ⟨rfl, hb5⟩
              obtain ⟨W7, hW7⟩ : ∃ W7, W7 = (w5.alloc (.cells #[.int .i64 N, .int .i64 ao, .int .i64 al, .int .i64 ad, .int .i64 ac, .int .i64 at4] 29)).alloc (.cells #[.int .i64 cc.g, .int .i64 cc.o, .int .i64 cc.l, .int .i64 cc.d, .int .i64 cc.c, .int .i64 cc.t] 29) := ⟨_, rfl⟩
              have HB7 := Lib.hid (show Below w4.heap.size w4 W7 from by rw [hW7]; exact below_alloc (below_alloc hb5 _) _)
              obtain ⟨a0, a1, a2, a3, a4, a5⟩ := acc6 (a := ⟨N, ao, al, ad, ac, at4⟩) (show Has W7 w5.heap.size (.cells #[.int .i64 N, .int .i64 ao, .int .i64 al, .int .i64 ad, .int .i64 ac, .int .i64 at4] 29) from by rw [hW7]; exact has_old (has_new _ _ _ rfl) _)
              clear hb5
              subst hW7
              go_wp2_with fail
              refine (HEV.out _ HB7.out).mono ?_
              rintro e w8 ⟨rfl, hb8⟩
              have HB8 := Lib.hid (bnext HB7.out hb8)
              clear hb8 a0 a1 a2 a3 a4 a5
              go_wp2_with fail
              go_roundw
              case rel => exact ⟨i + 1, m, f, N, L4, by go_num, rfl, by omega, by omega, by omega, by omega, by omega, hup4, Lib.hid (HP4.out.below HB8.out), HE4, Lib.hid (own_under HF4.out HB8.out), Lib.hid (bnext HB4.out HB8.out)⟩
              case measure => simp [intOf]; omega
            · skip
              have HPN := Lib.hid (pclose wr b mb L HP.out (by omega) HE.out.iv.inv ((kk : Int) + 1) (by unfold I64; omega))
              have HE4 := Lib.hid ((ev_close HE.out (by omega) ((kk : Int) + 1)).mono (m' := 41 * ((i + 1 : Nat) : Int)) (by omega))
              have hL4 := close_len L ((kk : Int) + 1)
              generalize closeB L ((kk : Int) + 1) = L4 at HPN HE4 hL4
              generalize closeE L ((kk : Int) + 1) = en at HPN
              go_wp2_with fail
              refine HPN.out.mono ?_
              rintro e w4 ⟨rfl, hp4, hk4⟩
              have HP4 := Lib.hid hp4
              have HF4 := Lib.hid (own_turn HF.out HP.out.map hk4)
              have HB4 := Lib.hid (below_keeps HB.out hk4 (fun x e => by rw [e]; exact hmb1))
              clear hp4 hk4
              have hup4 := hup
              obtain ⟨ao, al, ad, ac, at4, cc, hof⟩ := of_root HP4.out HE4.out
              have HOF := Lib.hid hof
              clear hof
              have HEV := Lib.hid (fun W (hb : Below w4.heap.size w4 W) => even_root (HP4.out.below hb) HE4.out (by omega) (by omega))
              go_wp2_with fail
              refine HOF.out.mono ?_
              rintro e w5 ⟨rfl, hb5⟩
              obtain ⟨W7, hW7⟩ : ∃ W7, W7 = (w5.alloc (.cells #[.int .i64 N, .int .i64 ao, .int .i64 al, .int .i64 ad, .int .i64 ac, .int .i64 at4] 29)).alloc (.cells #[.int .i64 cc.g, .int .i64 cc.o, .int .i64 cc.l, .int .i64 cc.d, .int .i64 cc.c, .int .i64 cc.t] 29) := ⟨_, rfl⟩
              have HB7 := Lib.hid (show Below w4.heap.size w4 W7 from by rw [hW7]; exact below_alloc (below_alloc hb5 _) _)
              obtain ⟨a0, a1, a2, a3, a4, a5⟩ := acc6 (a := ⟨N, ao, al, ad, ac, at4⟩) (show Has W7 w5.heap.size (.cells #[.int .i64 N, .int .i64 ao, .int .i64 al, .int .i64 ad, .int .i64 ac, .int .i64 at4] 29) from by rw [hW7]; exact has_old (has_new _ _ _ rfl) _)
              clear hb5
              subst hW7
              go_wp2_with fail
              refine (HEV.out _ HB7.out).mono ?_
              rintro e w8 ⟨rfl, hb8⟩
              have HB8 := Lib.hid (bnext HB7.out hb8)
              clear hb8 a0 a1 a2 a3 a4 a5
              go_wp2_with fail
              go_roundw
              case rel => exact ⟨i + 1, m, f, N, L4, by go_num, rfl, by omega, by omega, by omega, by omega, by omega, hup4, Lib.hid (HP4.out.below HB8.out), HE4, Lib.hid (own_under HF4.out HB8.out), Lib.hid (bnext HB4.out HB8.out)⟩
              case measure => simp [intOf]; omega
      · have hi3' : ¬ (i : Int) < 200 := by omega
        have hin' : (i : Int) < (n : Int) := by omega
        go_wp2_with fail
        refine (HS.out _).mono ?_
        rintro e w9 ⟨rfl, hb9⟩
        have HB9 := Lib.hid (bnext HB.out hb9)
        clear hb9
        go_wp2_with fail
        go_ret
        exact ⟨rfl, HB9.out⟩
    · have hin' : ¬ (i : Int) < (n : Int) := by omega
      go_wp2_with fail
      refine (HS.out _).mono ?_
      rintro e w9 ⟨rfl, hb9⟩
      have HB9 := Lib.hid (bnext HB.out hb9)
      clear hb9
      go_wp2_with fail
      go_ret
      exact ⟨rfl, HB9.out⟩
end Go.Proofs.Ytdbfjcdglcagaaa
