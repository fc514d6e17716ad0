/- The law's own alike: what a book shows is what the document's list says; no condition but those that each row names. -/
import Derived.Test.YtilbohjkkdkdiaaGDo
import Derived.Test.YtilbohjkkdkdiaaGRefR
import Derived.Test.YtilbohjkkdkdiaaGList
namespace Go.Proofs.Ytilbohjkkdkdiaa
open Go.RowKit

set_option maxHeartbeats 4000000 in
set_option maxRecDepth 100000 in
theorem alike_of (w : World) (b : Nat) (f : Nat → Cl) (v : Value) (s p S R : Int) (c : Cl) (is : Bool) (i : Int) (hb : BK BT w b f) (hv : Rc w v (lst f 0 64)) (hs0 : 0 ≤ S) (hs1 : S ≤ 1048576)
    (hof : ∀ W, BK BT W b f → Calls Try.prog 19 #[.pointer (some ⟨b, 0, none⟩), .int .i64 s] W fun e w' => e = .returned (.tuple #[.agg #[.int .i64 c.s, .int .i64 c.n, .int .i64 c.x, .bool c.d], .bool is]) ∧ Below W.heap.size W w')
    (hfind : ∀ W, Rc W v (lst f 0 64) → Calls Try.prog 32 #[v, .int .i64 s] W fun e w' => e = .returned (.int .i64 i) ∧ W = w')
    (hi : (is = false ∧ i = -1 ∧ c = zc) ∨ (is = true ∧ ∃ j : Nat, i = j ∧ ∃ h : j < (lst f 0 64).length, (lst f 0 64)[j] = c))
    (hlist : ∀ W, BK BT W b f → Calls Try.prog 17 #[.pointer (some ⟨b, 0, none⟩)] W (Listed W (lst f 0 64)))
    (hsame : ∀ W u u', Rd W u (lst f 0 64) → Rd W u' (lst f 0 64) → Calls Try.prog 16 #[u, u'] W fun e w' => e = .returned (.bool true) ∧ Below W.heap.size W w')
    (hsum : ∀ W, BK BT W b f → Calls Try.prog 23 #[.pointer (some ⟨b, 0, none⟩)] W fun e w' => e = .returned (.int .i64 S) ∧ Below W.heap.size W w')
    (hfree : ∀ W, BK BT W b f → Calls Try.prog 24 #[.pointer (some ⟨b, 0, none⟩)] W fun e w' => e = .returned (.int .i64 (1048576 - S)) ∧ Below W.heap.size W w')
    (hroom : ∀ W, BK BT W b f → Calls Try.prog 25 #[.pointer (some ⟨b, 0, none⟩), .int .i64 p] W fun e w' => e = .returned (.int .i64 R) ∧ Below W.heap.size W w')
    (hrsum : ∀ W, Rc W v (lst f 0 64) → Calls Try.prog 33 #[v] W fun e w' => e = .returned (.int .i64 S) ∧ Below W.heap.size W w')
    (hrroom : ∀ W, Rc W v (lst f 0 64) → Calls Try.prog 34 #[v, .int .i64 p] W fun e w' => e = .returned (.int .i64 R) ∧ Below W.heap.size W w') :
    Calls Try.prog 11 #[.pointer (some ⟨b, 0, none⟩), v, .int .i64 s, .int .i64 p] w fun e w' => e = .returned (.bool true) ∧ Below w.heap.size w w' := by
  have HB := Lib.hid hb
  have HV := Lib.hid hv
  have HOF := Lib.hid hof
  have HFIND := Lib.hid hfind
  have HLIST := Lib.hid hlist
  have HSAME := Lib.hid hsame
  have HSUM := Lib.hid hsum
  have HFREE := Lib.hid hfree
  have HROOM := Lib.hid hroom
  have HRSUM := Lib.hid hrsum
  have HRROOM := Lib.hid hrroom
  have h64 := lst64 f
  obtain ⟨pv, cv, rfl⟩ := hv.1.shape
  generalize lst f 0 64 = L at *
  clear hof hfind hlist hsame hsum hfree hroom hrsum hrroom hb hv
  obtain ⟨cs, cn, cx, cd⟩ := c
  simp only at HOF
  go_enter Try.func11, Try.ntmps11
  go_wp2_with fail
  refine (HOF.out _ HB.out).mono ?_
  rintro e w1 ⟨rfl, hb1⟩
  have HB1 := Lib.hid ((HB.out.below hb1).alloc (.cells #[.int .i64 cs, .int .i64 cn, .int .i64 cx, .bool cd] 35))
  have hw1 := Below.alloc hb1 hb1.size (.cells #[.int .i64 cs, .int .i64 cn, .int .i64 cx, .bool cd] 35)
  have HW1 := Lib.hid hw1
  have HV1 := Lib.hid (HV.out.below hw1)
  have HV0 := Lib.hid (HV.out.below hb1)
  have HC1 := Lib.hid (C4.new 35 w1 cs cn cx cd)
  clear hb1 hw1
  go_wp2_with fail
  refine (HFIND.out _ HV1.out).mono ?_
  rintro e w2 ⟨rfl, rfl⟩
  rcases hi with ⟨rfl, rfl, hz⟩ | ⟨rfl, j, rfl, hj, hz⟩
  · cases hz
    go_upto_region 6 with fail
    have hw2 := Below.alloc HW1.out HW1.out.size (.cells #[.int .i64 0, .int .i64 0, .int .i64 0, .bool false] 36)
    have HB2 := Lib.hid (HB1.out.alloc (.cells #[.int .i64 0, .int .i64 0, .int .i64 0, .bool false] 36))
    have HW2 := Lib.hid hw2
    have HV2 := Lib.hid (HV1.out.below ((Below.refl _ _).alloc (Nat.le_refl _) (.cells #[.int .i64 0, .int .i64 0, .int .i64 0, .bool false] 36)))
    have HC2 := Lib.hid (HC1.out.alloc (.cells #[.int .i64 0, .int .i64 0, .int .i64 0, .bool false] 36))
    have HD2 := Lib.hid (C4.new 36 (w1.alloc (.cells #[.int .i64 0, .int .i64 0, .int .i64 0, .bool false] 35)) 0 0 0 false)
    clear hw2
    go_wp2_with fail
    refine (HRSUM.out _ HV2.out).mono ?_
    rintro e w3 ⟨rfl, hb3⟩
    have HB3 := Lib.hid (HB2.out.below hb3)
    have HV3 := Lib.hid (HV2.out.below hb3)
    have HW3 := Lib.hid (bnext HW2.out hb3)
    have HC3 := Lib.hid (HC2.out.below hb3)
    have HD3 := Lib.hid (HD2.out.below hb3)
    clear hb3 HB2 HV2 HW2 HC2 HD2 HB1 HV1 HW1 HC1
    simp only [World.size_alloc] at HD3
    go_wp2_with fail
    refine (HLIST.out _ HB3.out).mono ?_
    rintro e w4 ⟨v4, rfl, ho4, hb4⟩
    have HB4 := Lib.hid (HB3.out.below hb4)
    have HV4 := Lib.hid (HV3.out.below hb4)
    have HW4 := Lib.hid (bnext HW3.out hb4)
    have HC4 := Lib.hid (HC3.out.below hb4)
    have HD4 := Lib.hid (HD3.out.below hb4)
    have HR4 := Lib.hid (own_rd ho4 (by omega))
    clear ho4 hb4 HB3 HV3 HW3 HC3 HD3
    go_wp2_with fail
    refine (HSAME.out _ _ _ HR4.out HV4.out.1).mono ?_
    rintro e w5 ⟨rfl, hb5⟩
    have HB5 := Lib.hid (HB4.out.below hb5)
    have HV5 := Lib.hid (HV4.out.below hb5)
    have HW5 := Lib.hid (bnext HW4.out hb5)
    have HC5 := Lib.hid (HC4.out.below hb5)
    have HD5 := Lib.hid (HD4.out.below hb5)
    clear hb5 HB4 HV4 HW4 HC4 HD4 HR4
    go_wp2_with fail
    refine (HSUM.out _ HB5.out).mono ?_
    rintro e w6 ⟨rfl, hb6⟩
    have HB6 := Lib.hid (HB5.out.below hb6)
    have HV6 := Lib.hid (HV5.out.below hb6)
    have HW6 := Lib.hid (bnext HW5.out hb6)
    have HC6 := Lib.hid (HC5.out.below hb6)
    have HD6 := Lib.hid (HD5.out.below hb6)
    clear hb6 HB5 HV5 HW5 HC5 HD5
    go_wp2_with fail
    refine (HFREE.out _ HB6.out).mono ?_
    rintro e w7 ⟨rfl, hb7⟩
    have HB7 := Lib.hid (HB6.out.below hb7)
    have HV7 := Lib.hid (HV6.out.below hb7)
    have HW7 := Lib.hid (bnext HW6.out hb7)
    have hc7 := HC6.out.below hb7
    have hd7 := HD6.out.below hb7
    obtain ⟨g0, g1, g2, g3⟩ := hc7.cells
    obtain ⟨j0, j1, j2, j3⟩ := hd7.cells
    have l1 := hc7.lt
    have l2 := hd7.lt
    clear hb7 hc7 hd7 HB6 HV6 HW6 HC6 HD6
    go_wp2_with fail
    refine (HROOM.out _ HB7.out).mono ?_
    rintro e w8 ⟨rfl, hb8⟩
    have HV8 := Lib.hid (HV7.out.below hb8)
    have HW8 := Lib.hid (bnext HW7.out hb8)
    clear hb8 g0 g1 g2 g3 j0 j1 j2 j3 l1 l2 HB7 HV7 HW7
    go_wp2_with fail
    refine (HRROOM.out _ HV8.out).mono ?_
    rintro e w9 ⟨rfl, hb9⟩
    have HW9 := Lib.hid (bnext HW8.out hb9)
    clear hb9
    go_wp2_with fail
    go_ret
    exact ⟨rfl, HW9.out⟩
  · have hji : (j : Int) < (L.length : Int) := by omega
    have hj0 : (0 : Int) ≤ (j : Int) := by omega
    obtain ⟨pv', cv', ep, _, hcc⟩ := HV0.out.1
    cases ep
    obtain ⟨b', off, rfl, c0, c1, c2, c3⟩ := hcc j hj
    rw [hz] at c0 c1 c2 c3
    simp only at c0 c1 c2 c3
    have lb := cell_lt c0
    simp only at lb
    clear hcc hz HV0
    go_upto_region 6 with fail
    have hw2 := Below.alloc HW1.out HW1.out.size (.cells #[.int .i64 cs, .int .i64 cn, .int .i64 cx, .bool cd] 36)
    have HB2 := Lib.hid (HB1.out.alloc (.cells #[.int .i64 cs, .int .i64 cn, .int .i64 cx, .bool cd] 36))
    have HW2 := Lib.hid hw2
    have HV2 := Lib.hid (HV1.out.below ((Below.refl _ _).alloc (Nat.le_refl _) (.cells #[.int .i64 cs, .int .i64 cn, .int .i64 cx, .bool cd] 36)))
    have HC2 := Lib.hid (HC1.out.alloc (.cells #[.int .i64 cs, .int .i64 cn, .int .i64 cx, .bool cd] 36))
    have HD2 := Lib.hid (C4.new 36 (w1.alloc (.cells #[.int .i64 cs, .int .i64 cn, .int .i64 cx, .bool cd] 35)) cs cn cx cd)
    clear hw2 c0 c1 c2 c3 lb
    go_wp2_with fail
    refine (HRSUM.out _ HV2.out).mono ?_
    rintro e w3 ⟨rfl, hb3⟩
    have HB3 := Lib.hid (HB2.out.below hb3)
    have HV3 := Lib.hid (HV2.out.below hb3)
    have HW3 := Lib.hid (bnext HW2.out hb3)
    have HC3 := Lib.hid (HC2.out.below hb3)
    have HD3 := Lib.hid (HD2.out.below hb3)
    clear hb3 HB2 HV2 HW2 HC2 HD2 HB1 HV1 HW1 HC1
    simp only [World.size_alloc] at HD3
    go_wp2_with fail
    refine (HLIST.out _ HB3.out).mono ?_
    rintro e w4 ⟨v4, rfl, ho4, hb4⟩
    have HB4 := Lib.hid (HB3.out.below hb4)
    have HV4 := Lib.hid (HV3.out.below hb4)
    have HW4 := Lib.hid (bnext HW3.out hb4)
    have HC4 := Lib.hid (HC3.out.below hb4)
    have HD4 := Lib.hid (HD3.out.below hb4)
    have HR4 := Lib.hid (own_rd ho4 (by omega))
    clear ho4 hb4 HB3 HV3 HW3 HC3 HD3
    go_wp2_with fail
    refine (HSAME.out _ _ _ HR4.out HV4.out.1).mono ?_
    rintro e w5 ⟨rfl, hb5⟩
    have HB5 := Lib.hid (HB4.out.below hb5)
    have HV5 := Lib.hid (HV4.out.below hb5)
    have HW5 := Lib.hid (bnext HW4.out hb5)
    have HC5 := Lib.hid (HC4.out.below hb5)
    have HD5 := Lib.hid (HD4.out.below hb5)
    clear hb5 HB4 HV4 HW4 HC4 HD4 HR4
    go_wp2_with fail
    refine (HSUM.out _ HB5.out).mono ?_
    rintro e w6 ⟨rfl, hb6⟩
    have HB6 := Lib.hid (HB5.out.below hb6)
    have HV6 := Lib.hid (HV5.out.below hb6)
    have HW6 := Lib.hid (bnext HW5.out hb6)
    have HC6 := Lib.hid (HC5.out.below hb6)
    have HD6 := Lib.hid (HD5.out.below hb6)
    clear hb6 HB5 HV5 HW5 HC5 HD5
    go_wp2_with fail
    refine (HFREE.out _ HB6.out).mono ?_
    rintro e w7 ⟨rfl, hb7⟩
    have HB7 := Lib.hid (HB6.out.below hb7)
    have HV7 := Lib.hid (HV6.out.below hb7)
    have HW7 := Lib.hid (bnext HW6.out hb7)
    have hc7 := HC6.out.below hb7
    have hd7 := HD6.out.below hb7
    obtain ⟨g0, g1, g2, g3⟩ := hc7.cells
    obtain ⟨j0, j1, j2, j3⟩ := hd7.cells
    have l1 := hc7.lt
    have l2 := hd7.lt
    clear hb7 hc7 hd7 HB6 HV6 HW6 HC6 HD6
    go_wp2_with fail
    refine (HROOM.out _ HB7.out).mono ?_
    rintro e w8 ⟨rfl, hb8⟩
    have HV8 := Lib.hid (HV7.out.below hb8)
    have HW8 := Lib.hid (bnext HW7.out hb8)
    clear hb8 g0 g1 g2 g3 j0 j1 j2 j3 l1 l2 HB7 HV7 HW7
    go_wp2_with fail
    refine (HRROOM.out _ HV8.out).mono ?_
    rintro e w9 ⟨rfl, hb9⟩
    have HW9 := Lib.hid (bnext HW8.out hb9)
    clear hb9
    go_wp2_with fail
    go_ret
    exact ⟨rfl, HW9.out⟩
theorem alike_any (w : World) (b : Nat) (f : Nat → Cl) (v : Value) (s p : Int) (hb : BK BT w b f) (hG : Good f) (hv : Rc w v (lst f 0 64)) :
    Calls Try.prog 11 #[.pointer (some ⟨b, 0, none⟩), v, .int .i64 s, .int .i64 p] w fun e w' => e = .returned (.bool true) ∧ Below w.heap.size w w' := by
  have h64 := lst64 f
  have hls := lst_sml hG
  have hl := hG.lsum 64 (by omega)
  have hs1 := hG.sum
  by_cases h : there f s
  · obtain ⟨k, n, x, d, rfl, hk, hf, hn, _⟩ := there_parts hG h
    have hn' : 1 ≤ (f k).n := by rw [hf]; exact hn
    obtain ⟨i, hi, he, hno, _, _⟩ := lst_at hG hk hn'
    exact alike_of w b f v k p (sumTo f 64) (roomV (1048576 - sumTo f 64) p) (f k) true i hb hv hG.pos hs1
      (fun W hW => of_there b f k W hk hW hn') (fun W hW => rfind_at W v _ k i hW.1 h64 hi (by rw [he, hf]) hno) (.inr ⟨rfl, i, rfl, hi, he⟩)
      (fun W hW => list_any b f W hW hG) (fun W u u' h1 h2 => same_yes W u u' _ h1 h2 (by omega)) (fun W hW => sum_book b f W hW hG.small) (fun W hW => free_book b f W hW hG.small) (fun W hW => room_book b f p W hW hG)
      (fun W hW => by have := rsum_any W v _ hW.1 hls; rwa [hl] at this) (fun W hW => by have := rroom_any W v _ p hW.1 hls (by rw [hl]; exact hs1); rwa [hl] at this)
  · exact alike_of w b f v s p (sumTo f 64) (roomV (1048576 - sumTo f 64) p) zc false (-1) hb hv hG.pos hs1
      (fun W hW => of_no b f s W hW hG h) (fun W hW => rfind_no W v _ s hW.1 h64 (lst_out hG h)) (.inl ⟨rfl, rfl, rfl⟩)
      (fun W hW => list_any b f W hW hG) (fun W u u' h1 h2 => same_yes W u u' _ h1 h2 (by omega)) (fun W hW => sum_book b f W hW hG.small) (fun W hW => free_book b f W hW hG.small) (fun W hW => room_book b f p W hW hG)
      (fun W hW => by have := rsum_any W v _ hW.1 hls; rwa [hl] at this) (fun W hW => by have := rroom_any W v _ p hW.1 hls (by rw [hl]; exact hs1); rwa [hl] at this)
end Go.Proofs.Ytilbohjkkdkdiaa
