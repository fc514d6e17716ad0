/- The walk of EdfBest (Dertouzos): whatever the items and the plan, it answers true; no condition but that each is at most 2^47 bytes. -/
import Derived.Test.YtfahpjilgdlhiaaWWorks
import Derived.Test.YtfahpjilgdlhiaaWMissR
namespace Go.Proofs.Ytfahpjilgdlhiaa
open Go.RowKit Edf

/-- What is missed and what is met are one. -/
theorem msN_pos (x : It) (i : Int) (g : Nat → Int) : ∀ K, msN x i g K = 0 ↔ ∀ k, k < K → x.q ≤ cnt g i (x.s + k * x.p) x.p
  | 0 => ⟨fun _ k hk => by omega, fun _ => rfl⟩
  | K + 1 => by
    have ih := msN_pos x i g K
    simp only [msN]
    constructor
    · intro h k hk
      by_cases e : k = K
      · subst e
        apply Classical.byContradiction
        intro h2
        rw [if_pos (by omega)] at h
        omega
      · exact ih.1 (by omega) k (by omega)
    · intro h
      rw [ih.2 fun k hk => h k (by omega), if_neg (by have := h K (by omega); omega)]
theorem meets_iff {I : Nat → It} (hB : ∀ i, ItB (I i)) {n N : Nat} {g : Nat → Int} : someB (mV I N g) n = false ↔ Meets I n N g := by
  rw [someB_false]
  constructor
  · intro h i hi k hk
    have h1 := h i hi
    unfold mV at h1
    exact (msN_pos (I i) i g (per (I i) N)).1 (by omega) k ((per_iff (I i) (by have := (hB i).q1; have := (hB i).qp; omega)).2 hk)
  · intro h i hi
    unfold mV
    have := (msN_pos (I i) i g (per (I i) N)).2 fun k hk => h i hi k ((per_iff (I i) (by have := (hB i).q1; have := (hB i).qp; omega)).1 hk)
    rw [this]; rfl
theorem pOk_plz (I : Nat → It) (n N : Nat) : pOk N n (plz I n) := fun j _ => by
  unfold plz
  cases h : pl I n j with
  | none => exact ⟨by show (-1 : Int) ≤ (-1 : Int); omega, by show (-1 : Int) < (n : Int); omega⟩
  | some k => have := pl_lt h; exact ⟨by show (-1 : Int) ≤ (k : Int); omega, by show (k : Int) < (n : Int); omega⟩
theorem mE_plz {n : Nat} {f : Nat → Tri} {N : Nat} (hN : N ≤ 4096) (h0 : vE n f = 0) {g : Nat → Int} (hg : pOk N n g) : mE n f N g = 0 := by
  unfold mE; rw [if_pos ⟨hN, hg⟩, h0]
theorem mE_ok {n : Nat} {f : Nat → Tri} {N : Nat} {g : Nat → Int} (h : mE n f N g = 0) : N ≤ 4096 ∧ pOk N n g ∧ vE n f = 0 := by
  unfold mE at h
  by_cases h1 : N ≤ 4096 ∧ pOk N n g
  · rw [if_pos h1] at h; exact ⟨h1.1, h1.2, h⟩
  · rw [if_neg h1] at h; cases h
theorem mG_0 {n : Nat} {f : Nat → Tri} {N : Nat} {g : Nat → Int} (h : mE n f N g = 0) : mN n f N g = n ∧ mG n f N g = mV (itI n f) N g := ⟨if_pos h, funext fun _ => if_pos h⟩
theorem mN_le (n : Nat) (f : Nat → Tri) (N : Nat) (g : Nat → Int) : mN n f N g ≤ n := by unfold mN; split <;> omega
theorem someB_congr {f g : Nat → Int} : ∀ n, (∀ i, i < n → f i = g i) → someB f n = someB g n
  | 0, _ => rfl
  | n + 1, h => by simp only [someB]; rw [someB_congr n fun i hi => h i (by omega), h n (by omega)]
set_option maxHeartbeats 4000000 in
set_option maxRecDepth 100000 in
theorem best_any (w : World) (v : Value) (n : Nat) (f : Nat → Tri) (pv : Value) (N : Nat) (g : Nat → Int) (h : Tris w v n f) (hp : Nums w pv N g) (hn : n * 24 ≤ 140737488355328) (hN8 : N * 8 ≤ 140737488355328) : Calls Try.prog 8 #[v, pv] w fun e w' => e = .returned (.bool true) ∧ Below w.heap.size w w' := by
  have HW := Lib.hid (fun w => works_any w)
  have hn2 : n ≤ 9223372036854775807 := by omega
  by_cases hN : 300 < N
  · obtain ⟨p0, cap0, rfl, _, _⟩ := h
    obtain ⟨p1, cap1, rfl, _, _⟩ := hp
    have hN' : (300 : Int) < (N : Int) := by omega
    go_enter Try.func8, Try.ntmps8
    go_wp2_with fail
    refine (HW.out _).mono ?_
    rintro e w8 ⟨rfl, hb8⟩
    go_wp2_with fail
    go_ret
    exact ⟨rfl, hb8⟩
  · have hN' : (N : Int) ≤ 300 := by omega
    have HR := Lib.hid (rmissed_any w v n f h pv N g hp)
    have hmn : mN n f N g ≤ 9223372036854775807 := by have := mN_le n f N g; omega
    by_cases he : mE n f N g = 0
    · obtain ⟨h96, hok, h0⟩ := mE_ok he
      obtain ⟨e1, e2⟩ := mG_0 he
      obtain ⟨h64, hB, hI⟩ := vE_ok h0
      rw [e1, e2, he] at HR
      by_cases hs : someB (mV (itI n f) N g) n = false
      · have hme := (meets_iff hB).1 hs
        have hbest := edf_best (fun i => (hB i).ok) hme
        have hs2 := (meets_iff hB).2 hbest
        have HI := Lib.hid (fun W (hb : Below w.heap.size w W) => items_any W v n f (h.below hb) hn)
        have HP := Lib.hid (fun W u hu => plan_any W u n f hu (N : Nat))
        have e3 : pE n f (N : Nat) = 0 := by unfold pE; rw [if_pos ⟨by omega, by omega⟩, h0]
        have e4 : pN n f (N : Nat) = N := by unfold pN; rw [if_pos e3]; exact Int.toNat_natCast N
        rw [e3, e4] at HP
        have HR2 := Lib.hid (fun W (hb : Below w.heap.size w W) u hu => rmissed_any W v n f (h.below hb) u N (plz (itI n f) n) hu)
        have e5 := mE_plz (f := f) h96 h0 (pOk_plz (itI n f) n N)
        obtain ⟨e6, e7⟩ := mG_0 e5
        rw [e5, e6, e7] at HR2
        have HSA := Lib.hid (fun w u hu => some_any w u n (mV (itI n f) N g) hu)
        rw [hs] at HSA
        have HSB := Lib.hid (fun w u hu => some_any w u n (mV (itI n f) N (plz (itI n f) n)) hu)
        rw [hs2] at HSB
        obtain ⟨p0, cap0, rfl, _, _⟩ := h
        obtain ⟨p1, cap1, rfl, _, _⟩ := hp
        generalize mV (itI n f) N g = m1 at *
        generalize mV (itI n f) N (plz (itI n f) n) = m2 at *
        generalize plz (itI n f) n = pz at *
        clear hmn he h96 hok h0 e1 e2 h64 hB hI hs hme hbest hs2 e3 e4 e5 e6 e7
        go_enter Try.func8, Try.ntmps8
        go_wp2_with fail
        refine HR.out.mono ?_
        intro e w1 hpost
        obtain ⟨p2, cap2, rfl, _, hn1, hb1⟩ := hpost.one hn2
        have HN1 := Lib.hid hn1
        have HB1 := Lib.hid hb1
        clear hpost hn1 hb1
        go_wp2_with fail
        refine (HSA.out _ _ HN1.out).mono ?_
        rintro e w2 ⟨rfl, rfl⟩
        go_wp2_with fail
        refine (HI.out _ HB1.out).mono ?_
        rintro e w2 ⟨u2, rfl, ho2, hb2⟩
        have HT2 := Lib.hid (own_tris ho2 hn2)
        have HB2 := Lib.hid (bnext HB1.out hb2)
        clear ho2 hb2 HN1
        go_wp2_with fail
        refine (HP.out _ _ HT2.out).mono ?_
        intro e w3 hpost
        obtain ⟨p3, cap3, rfl, _, hn3, hb3⟩ := hpost.one (by omega)
        rw [errV_0]
        have HN3 := Lib.hid hn3
        have HB3 := Lib.hid (bnext HB2.out hb3)
        clear hpost hn3 hb3 HT2
        go_wp2_with fail
        refine (HR2.out _ HB3.out _ HN3.out).mono ?_
        intro e w4 hpost
        obtain ⟨p4, cap4, rfl, _, hn4, hb4⟩ := hpost.one hn2
        have HN4 := Lib.hid hn4
        have HB4 := Lib.hid (bnext HB3.out hb4)
        clear hpost hn4 hb4
        go_wp2_with fail
        refine (HSB.out _ _ HN4.out).mono ?_
        rintro e w5 ⟨rfl, rfl⟩
        go_wp2_with fail
        refine (HW.out _).mono ?_
        rintro e w8 ⟨rfl, hb8⟩
        have HB8 := Lib.hid (bnext HB4.out hb8)
        clear hb8
        go_wp2_with fail
        go_ret
        exact ⟨rfl, HB8.out⟩
      · have hs' : someB (mV (itI n f) N g) n = true := by cases e : someB (mV (itI n f) N g) n with | false => exact absurd e hs | true => rfl
        have HSA := Lib.hid (fun w u hu => some_any w u n (mV (itI n f) N g) hu)
        rw [hs'] at HSA
        obtain ⟨p0, cap0, rfl, _, _⟩ := h
        obtain ⟨p1, cap1, rfl, _, _⟩ := hp
        generalize mV (itI n f) N g = m1 at *
        clear hmn he h96 hok h0 e1 e2 h64 hB hI hs hs'
        go_enter Try.func8, Try.ntmps8
        go_wp2_with fail
        refine HR.out.mono ?_
        intro e w1 hpost
        obtain ⟨p2, cap2, rfl, _, hn1, hb1⟩ := hpost.one hn2
        have HN1 := Lib.hid hn1
        have HB1 := Lib.hid hb1
        clear hpost hn1 hb1
        go_wp2_with fail
        refine (HSA.out _ _ HN1.out).mono ?_
        rintro e w2 ⟨rfl, rfl⟩
        go_wp2_with fail
        refine (HW.out _).mono ?_
        rintro e w8 ⟨rfl, hb8⟩
        have HB8 := Lib.hid (bnext HB1.out hb8)
        clear hb8
        go_wp2_with fail
        go_ret
        exact ⟨rfl, HB8.out⟩
    · obtain ⟨p0, cap0, rfl, _, _⟩ := h
      obtain ⟨p1, cap1, rfl, _, _⟩ := hp
      have he' : (mE n f N g == 0) = false := by rw [beq_eq_false_iff_ne]; exact he
      have he2 : (mE n f N g != 0) = true := by rw [bne_iff_ne]; exact he
      generalize mE n f N g = er at *
      generalize mN n f N g = k at *
      generalize mG n f N g = mg at *
      clear he
      go_enter Try.func8, Try.ntmps8
      go_wp2_with fail
      refine HR.out.mono ?_
      intro e w1 hpost
      obtain ⟨p2, cap2, rfl, _, hn1, hb1⟩ := hpost.one hmn
      have HB1 := Lib.hid hb1
      clear hpost hn1 hb1
      go_wp2_with fail
      refine (HW.out _).mono ?_
      rintro e w8 ⟨rfl, hb8⟩
      have HB8 := Lib.hid (bnext HB1.out hb8)
      clear hb8
      go_wp2_with fail
      go_ret
      exact ⟨rfl, HB8.out⟩
end Go.Proofs.Ytfahpjilgdlhiaa
