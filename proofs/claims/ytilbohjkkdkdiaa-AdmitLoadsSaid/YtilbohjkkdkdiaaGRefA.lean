/- The document's own Find, Sum, twin; the law's same; no condition but those that each row names. -/
import Derived.Test.YtilbohjkkdkdiaaGCls
import Derived.RegionTactic
namespace Go.Proofs.Ytilbohjkkdkdiaa
open Go.RowKit

/-- A list that the document's answer sums. -/
structure Sml (L : List Cl) : Prop where
  len : L.length ≤ 64
  each : ∀ c ∈ L, 0 ≤ cnt c ∧ cnt c ≤ 1048576
theorem lsum_in : ∀ {L : List Cl}, (∀ c ∈ L, 0 ≤ cnt c ∧ cnt c ≤ 1048576) → 0 ≤ lsum L ∧ lsum L ≤ (L.length : Int) * 1048576
  | [], _ => by simp [lsum]
  | c :: r, h => by
    have a := h c (by simp)
    have b := lsum_in (L := r) (fun x hx => h x (by simp [hx]))
    simp only [lsum, List.length_cons]
    omega
theorem Sml.take {L : List Cl} (h : Sml L) (k : Nat) : 0 ≤ lsum (L.take k) ∧ lsum (L.take k) ≤ 67108864 := by
  have a := lsum_in (L := L.take k) (fun c hc => h.each c (List.mem_of_mem_take hc))
  have b : (L.take k).length ≤ 64 := Nat.le_trans (List.length_take_le' ..) h.len
  omega
theorem lsum_snoc {L : List Cl} {k : Nat} (h : k < L.length) : lsum (L.take (k + 1)) = lsum (L.take k) + cnt L[k] := by
  rw [List.take_succ_eq_append_getElem h, lsum_append]; simp [lsum]
theorem Rd.shape {w : World} {v : Value} {L : List Cl} (h : Rd w v L) : ∃ p cap, v = .slice p L.length cap := by
  obtain ⟨p, cap, e, _⟩ := h; exact ⟨p, cap, e⟩

/-- Such a slice, its length within its room, its block one of claims. -/
def Rc (w : World) (v : Value) (L : List Cl) : Prop := Rd w v L ∧ ∀ p n c, v = .slice p n c → n ≤ c ∧ ∀ g off, p = some ⟨g, off, none⟩ → ∃ cs fr, w.heap[g]? = some (.cells cs RT fr)
theorem Rc.keeps {S : Nat → Prop} {w w' : World} {v : Value} {L : List Cl} (h : Rc w v L) (hk : Keeps S w w') (hS : ∀ g cs fr, w.heap[g]? = some (.cells cs RT fr) → ¬ S g) : Rc w' v L := by
  refine ⟨h.1.keeps hk (fun b off n c e => ?_), fun p n c e => ⟨(h.2 p n c e).1, fun g off ep => ?_⟩⟩
  · obtain ⟨cs, fr, hb⟩ := (h.2 _ n c e).2 b off rfl
    exact hS b cs fr hb
  · obtain ⟨cs, fr, hb⟩ := (h.2 p n c e).2 g off ep
    exact ⟨cs, fr, (hk.block g (lt_of_block hb) (hS g cs fr hb)).trans hb⟩
theorem Rc.below {w w' : World} {v : Value} {L : List Cl} (h : Rc w v L) (hb : Below w.heap.size w w') : Rc w' v L := h.keeps (S := fun _ => False) (Keeps.of_below hb) (fun _ _ _ _ k => k)
theorem own_rc {B : Nat} {w : World} {v : Value} {L : List Cl} (h : w.ownsRow B RT 4 v L.length (cells4 L)) (hl : L.length ≤ 4398046511103) : Rc w v L := by
  refine ⟨own_rd h hl, fun p n c e => ⟨?_, fun g off ep => ?_⟩⟩
  · obtain ⟨p', cap', e', hle⟩ := own_small h
    rw [e'] at e; cases e; exact hle
  · rcases h.2 with ⟨e1, _⟩ | ⟨g', cap', cur, e1, _, hg, _⟩
    · rw [e1] at e; cases e; cases ep
    · rw [e1] at e; cases e; cases ep; exact ⟨_, _, hg⟩
theorem Rc.nil (w : World) : Rc w (.slice none 0 0) [] := ⟨Rd.nil w, fun p n c e => by cases e; exact ⟨Nat.le_refl _, fun g off e => by cases e⟩⟩

set_option maxHeartbeats 1000000 in
theorem rsum_any (w : World) (v : Value) (L : List Cl) (h : Rd w v L) (hs : Sml L) : Calls Try.prog 33 #[v] w fun e w' => e = .returned (.int .i64 (lsum L)) ∧ Below w.heap.size w w' := by
  obtain ⟨p, cap, rfl, hl, hc⟩ := h
  have HC := Lib.hid hc
  have HS := Lib.hid hs
  have h64 := hs.len
  clear hc hs
  go_enter Try.func33, Try.ntmps33
  go_wp2_with fail
  go_loopw [3, 4] (fun u i wr => ∃ k : Nat, k ≤ L.length ∧ i = .int .i64 k ∧ u = .int .i64 (lsum (L.take k)) ∧ Below w.heap.size w wr) (fun _ i _ => L.length - (intOf i).toNat)
  case atStart => exact ⟨0, by omega, rfl, rfl, Below.refl _ _⟩
  case round =>
    obtain ⟨k, hk, rfl, rfl, hbw⟩ := hrel
    have HBW := Lib.hid hbw
    have hd := HS.out.take k
    by_cases hlt : k < L.length
    · have hlt' : (k : Int) < (L.length : Int) := by omega
      have hk0 : (0 : Int) ≤ (k : Int) := by omega
      obtain ⟨b, off, rfl, c0, c1, c2, c3⟩ := HC.out k hlt
      have d1 := (hbw.cell (cell_lt c1)).trans c1
      have d2 := (hbw.cell (cell_lt c2)).trans c2
      have hcn := HS.out.each _ (List.getElem_mem hlt)
      have HE := Lib.hid (show lsum (L.take (k + 1)) = lsum (L.take k) + max L[k].n L[k].x from lsum_snoc hlt)
      have b0' : 0 ≤ max L[k].n L[k].x := hcn.1
      have b1' : max L[k].n L[k].x ≤ 1048576 := hcn.2
      clear c0 c1 c2 c3 hcn hbw
      obtain ⟨s, hs⟩ : ∃ s, lsum (L.take k) = s := ⟨_, rfl⟩
      rw [hs] at hd HE ⊢
      generalize L[k] = c at *
      obtain ⟨cs, cn, cx, cd⟩ := c
      simp only at d1 d2 HE b0' b1'
      obtain ⟨M, hM⟩ : ∃ M, max cn cx = M := ⟨_, rfl⟩
      rw [hM] at HE b0' b1'
      have wr1 : IntKind.i64.wrap (s + M) = s + M := IntWalk.i64_in _ (by omega)
      have HS1 := Lib.hid hs
      clear hs
      go_wp2_with fail
      go_region
      all_goals
        go_wp2_with fail
        go_roundw
        case rel => exact ⟨k + 1, by omega, by go_num, by rw [HE.out], by have hbw := HBW.out; exact (by repeat (first | exact Below.refl _ _ | (with_reducible assumption) | refine Below.drew ?_ | (refine Below.alloc ?_ (by first | exact Nat.le_refl _ | omega | (simp; done) | (simp; omega)) _) | (refine Below.setCell ?_ (by first | omega | (simp; done) | (simp; omega)) _)))⟩
        case measure => simp [intOf]; omega
    · obtain rfl : k = L.length := by omega
      have hg3 : decide (L.length < L.length) = false := decide_eq_false (by omega)
      rw [List.take_of_length_le (Nat.le_refl _)]
      clear hbw hd
      go_wp2_with fail
      go_ret
      exact ⟨rfl, HBW.out⟩

set_option maxHeartbeats 1000000 in
theorem rfind_at (w : World) (v : Value) (L : List Cl) (s : Int) (i : Nat) (h : Rd w v L) (h64 : L.length ≤ 64) (hi : i < L.length) (hs : L[i].s = s) (hno : ∀ j (h : j < L.length), j < i → L[j].s ≠ s) :
    Calls Try.prog 32 #[v, .int .i64 s] w fun e w' => e = .returned (.int .i64 i) ∧ w = w' := by
  obtain ⟨p, cap, rfl, hl, hc⟩ := h
  have HC := Lib.hid hc
  have HN := Lib.hid hno
  have HI := Lib.hid hs
  clear hc hno hs
  go_enter Try.func32, Try.ntmps32
  go_wp2_with fail
  go_loop [5] (fun iv => ∃ k : Nat, iv = .int .i64 k ∧ k ≤ i) (fun iv => L.length - (intOf iv).toNat)
  case atStart => exact ⟨0, rfl, Nat.zero_le _⟩
  case round =>
    obtain ⟨k, rfl, hk⟩ := hrel
    have hkl : k < L.length := by omega
    have hkl' : (k : Int) < (L.length : Int) := by omega
    obtain ⟨b, off, rfl, c0, _, _, _⟩ := HC.out k hkl
    by_cases e : k = i
    · subst e
      rw [HI.out] at c0
      go_wp2_with fail
      go_ret
      exact ⟨rfl, rfl⟩
    · have hne := HN.out k hkl (by omega)
      generalize L[k].s = y at c0 hne
      have hz : (y == s) = false := by simpa using hne
      go_wp2_with fail
      go_round
      case rel => exact ⟨k + 1, by go_num, by omega⟩
      case measure => simp [intOf]; omega
set_option maxHeartbeats 1000000 in
theorem rfind_no (w : World) (v : Value) (L : List Cl) (s : Int) (h : Rd w v L) (h64 : L.length ≤ 64) (hno : ∀ c ∈ L, c.s ≠ s) :
    Calls Try.prog 32 #[v, .int .i64 s] w fun e w' => e = .returned (.int .i64 (-1)) ∧ w = w' := by
  obtain ⟨p, cap, rfl, hl, hc⟩ := h
  have HC := Lib.hid hc
  have HN := Lib.hid hno
  clear hc hno
  go_enter Try.func32, Try.ntmps32
  go_wp2_with fail
  go_loop [5] (fun iv => ∃ k : Nat, iv = .int .i64 k ∧ k ≤ L.length) (fun iv => L.length - (intOf iv).toNat)
  case atStart => exact ⟨0, rfl, Nat.zero_le _⟩
  case round =>
    obtain ⟨k, rfl, hk⟩ := hrel
    by_cases hkl : k < L.length
    · have hkl' : (k : Int) < (L.length : Int) := by omega
      obtain ⟨b, off, rfl, c0, _, _, _⟩ := HC.out k hkl
      have hne := HN.out _ (List.getElem_mem hkl)
      generalize L[k].s = y at c0 hne
      have hz : (y == s) = false := by simpa using hne
      go_wp2_with fail
      go_round
      case rel => exact ⟨k + 1, by go_num, by omega⟩
      case measure => simp [intOf]; omega
    · have hg3 : decide (k < L.length) = false := decide_eq_false hkl
      go_wp2_with fail
      go_ret
      exact ⟨rfl, rfl⟩
theorem rfind_mid (w : World) (v : Value) (A B : List Cl) (c : Cl) (s : Int) (h : Rd w v (A ++ c :: B)) (h64 : (A ++ c :: B).length ≤ 64) (hs : c.s = s) (hA : ∀ x ∈ A, x.s ≠ s) :
    Calls Try.prog 32 #[v, .int .i64 s] w fun e w' => e = .returned (.int .i64 A.length) ∧ w = w' := by
  refine rfind_at w v _ s A.length h h64 (by simp) (by simpa using hs) (fun j hj hji => ?_)
  rw [List.getElem_append_left hji]
  exact hA _ (List.getElem_mem hji)

set_option maxHeartbeats 1000000 in
theorem rtwin_any (w : World) (v : Value) (L : List Cl) (h : Rd w v L) : Calls Try.prog 37 #[v] w fun e w' => ∃ v', e = .returned v' ∧ w'.ownsRow w.heap.size RT 4 v' L.length (cells4 L) ∧ Below w.heap.size w w' := by
  have hsrc := src_rd h
  obtain ⟨p, cap, rfl, hl, _⟩ := h
  have HS := Lib.hid hsrc
  clear hsrc
  go_enter Try.func37, Try.ntmps37
  go_wp2_with (at_builtin; refine wpList_append_R rfl _ _ rfl w.heap.size (.slice none 0 0) 0 [] rfl (World.ownsRow_nil _ _ _ _) _ L.length (cells4 L) rfl HS.out (cells4_one L) (by omega) (Nat.le_refl _) ?_)
  intro p1 c1 w1 ho hg ha
  have hb : Below w.heap.size w w1 := (Below.refl _ _).grown hg (Nat.le_refl _) (fun k e => by simp [Value.ownBlock] at e)
  have HO := Lib.hid (show w1.ownsRow w.heap.size RT 4 (.slice p1 (0 + L.length) c1) L.length (cells4 L) from by simpa using ho)
  have HB := Lib.hid hb
  clear ho hg ha hb
  go_wp2_with fail
  go_ret
  exact ⟨_, rfl, by simpa using HO.out, HB.out⟩

set_option maxHeartbeats 2000000 in
/-- same, of two lists alike. -/
theorem same_yes (w : World) (v u : Value) (L : List Cl) (h1 : Rd w v L) (h2 : Rd w u L) (h64 : L.length ≤ 4398046511103) : Calls Try.prog 16 #[v, u] w fun e w' => e = .returned (.bool true) ∧ Below w.heap.size w w' := by
  obtain ⟨p, cap, rfl, _, hc⟩ := h1
  obtain ⟨p2, cap2, rfl, _, hc2⟩ := h2
  have HC := Lib.hid hc
  have HD := Lib.hid hc2
  have hz0 : ((L.length : Int) != (L.length : Int)) = false := by simp
  clear hc hc2
  go_enter Try.func16, Try.ntmps16
  go_wp2_with fail
  go_loopw [5] (fun i wr => ∃ k : Nat, k ≤ L.length ∧ i = .int .i64 k ∧ Below w.heap.size w wr) (fun i _ => L.length - (intOf i).toNat)
  case atStart => exact ⟨0, by omega, rfl, Below.refl _ _⟩
  case round =>
    obtain ⟨k, hk, rfl, hbw⟩ := hrel
    have HBW := Lib.hid hbw
    by_cases hlt : k < L.length
    · have hlt' : (k : Int) < (L.length : Int) := by omega
      have hk0 : (0 : Int) ≤ (k : Int) := by omega
      obtain ⟨b, off, rfl, c0, c1, c2, c3⟩ := HC.out k hlt
      obtain ⟨b2, off2, rfl, d0, d1, d2, d3⟩ := HD.out k hlt
      have e0 := (hbw.cell (cell_lt c0)).trans c0
      have e1 := (hbw.cell (cell_lt c1)).trans c1
      have e2 := (hbw.cell (cell_lt c2)).trans c2
      have e3 := (hbw.cell (cell_lt c3)).trans c3
      have f0 := (hbw.cell (cell_lt d0)).trans d0
      have f1 := (hbw.cell (cell_lt d1)).trans d1
      have f2 := (hbw.cell (cell_lt d2)).trans d2
      have f3 := (hbw.cell (cell_lt d3)).trans d3
      generalize L[k] = c at *
      obtain ⟨cs, cn, cx, cd⟩ := c
      simp only at e0 e1 e2 e3 f0 f1 f2 f3
      have HB2 := Lib.hid fun n => below_drewN HBW.out n
      clear c0 c1 c2 c3 d0 d1 d2 d3 hbw
      go_wp2_with fail
      go_quiet (fail)
      go_wp2_with fail
      go_roundw
      case rel => exact ⟨k + 1, by omega, by go_num, HB2.out _⟩
      case measure => simp [intOf]; omega
    · have hg3 : decide (k < L.length) = false := decide_eq_false hlt
      clear hbw
      go_wp2_with fail
      go_ret
      exact ⟨rfl, HBW.out⟩
end Go.Proofs.Ytilbohjkkdkdiaa
