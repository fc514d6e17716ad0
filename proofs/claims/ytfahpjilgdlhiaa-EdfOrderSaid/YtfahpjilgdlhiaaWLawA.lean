/- The laws' own num, same, items, some; no condition but those that each row names. -/
import Derived.Test.YtfahpjilgdlhiaaWPlanP
namespace Go.Proofs.Ytfahpjilgdlhiaa
open Go.RowKit Edf

theorem num_nil (w : World) : Calls Try.prog 21 #[.nilIface] w fun e w' => e = .returned (.int .i64 0) ∧ w = w' := by
  go_enter Try.func21, Try.ntmps21
  go_wp2_with fail
  go_ret
  exact ⟨rfl, rfl⟩
theorem as_errno (n : Int) (w : World) : (Instr.typeAssert (.iface 70 (.int .i64 n)) 37 70 true).run Try.prog w = .ok (.tuple #[.int .i64 n, .bool true]) w := by kernel_rfl
set_option maxRecDepth 100000 in
theorem num_errno (n : Int) (w : World) : Calls Try.prog 21 #[.iface 70 (.int .i64 n)] w fun e w' => e = .returned (.int .i64 n) ∧ w = w' := by
  have ha := as_errno n
  go_enter Try.func21, Try.ntmps21
  go_wp2_with fail
  go_ret
  exact ⟨rfl, rfl⟩
theorem num_any (n : Int) (w : World) : Calls Try.prog 21 #[errV n] w fun e w' => e = .returned (.int .i64 n) ∧ w = w' := by
  by_cases h : n = 0
  · subst h; exact num_nil w
  · rw [errV_ne h]; exact num_errno n w

set_option maxHeartbeats 1000000 in
theorem same_yes (w : World) (u v : Value) (n : Nat) (f : Nat → Int) (hu : Nums w u n f) (hv : Nums w v n f) :
    Calls Try.prog 14 #[u, v] w fun e w' => e = .returned (.bool true) ∧ Below w.heap.size w w' := by
  have HU := Lib.hid (fun W (hb : Below w.heap.size w W) => hu.below hb)
  have HV := Lib.hid (fun W (hb : Below w.heap.size w W) => hv.below hb)
  obtain ⟨p, cp, rfl, hm, _⟩ := hu
  obtain ⟨q, cq, rfl, _, _⟩ := hv
  go_enter Try.func14, Try.ntmps14
  go_wp2_with fail
  go_loopw [5] (fun iv wr => ∃ (k : Nat), iv = .int .i64 k ∧ k ≤ n ∧ Hid (Below w.heap.size w wr)) (fun iv _ => n - (intOf iv).toNat)
  case atStart => exact ⟨0, rfl, Nat.zero_le _, Lib.hid (Below.refl _ _)⟩
  case round =>
    obtain ⟨k, rfl, hk, HB⟩ := hrel
    by_cases hlt : k < n
    · have hlt' : (k : Int) < (n : Int) := by omega
      have k0 : (0 : Int) ≤ (k : Int) := by omega
      obtain ⟨_, _, hsl, _, hcs⟩ := HU.out wr HB.out
      injection hsl with hs1 hs2 hs3
      subst hs1 hs3
      obtain ⟨b1, o1, rfl, c1⟩ := hcs k hlt
      obtain ⟨_, _, hsl, _, hds⟩ := HV.out wr HB.out
      injection hsl with hs4 hs5 hs6
      subst hs4 hs6
      obtain ⟨b2, o2, rfl, c2⟩ := hds k hlt
      clear hcs hds hs2 hs5
      generalize f k = y at c1 c2
      go_wp2_with fail
      go_quiet (fail)
      have HB2 := Lib.hid (show Below w.heap.size w (wr.drewN nq) from below_drewN HB.out _)
      go_wp2_with fail
      go_roundw
      case rel => exact ⟨k + 1, by go_num, by omega, HB2⟩
      case measure => simp [intOf]; omega
    · have hg3 : decide (k < n) = false := decide_eq_false hlt
      clear hlt
      go_wp2_with fail
      go_ret
      exact ⟨rfl, HB.out⟩

abbrev ItT : TypeId := 65
theorem Try.infIt : (Try.prog.info? ItT).map (fun i => (i.zero, i.size, i.bytes)) = some (some (.agg #[.int .i64 0, .int .i64 0, .int .i64 0]), 3, 24) := by kernel_rfl
theorem nil_tris (T : TypeId) (B : Nat) (w : World) (f : Nat → Tri) : TrisO T B w (.slice none 0 0) 0 f := by
  show w.ownsRow B T 3 (.slice none 0 0) 0 (triL f 0)
  have e : triL f 0 = [] := List.eq_nil_of_length_eq_zero (by rw [triL_len])
  rw [e]
  exact World.ownsRow_nil _ _ _ _
theorem news3 (w : World) (a b c : Value) (t : TypeId) : ∀ (j : Nat) x, [a, b, c][j]? = some x → (w.alloc (.cells #[a, b, c] t)).cell? ((⟨w.heap.size, 0, none⟩ : Addr).add j) = some x := by
  intro j x hj
  have hh := has_new w (.cells #[a, b, c] t) _ rfl
  rw [addr_plus, Nat.zero_add, has_cell hh]
  simpa using hj
def TrisPost (T : TypeId) (w : World) (n : Nat) (f : Nat → Tri) (e : Ending) (w' : World) : Prop := ∃ v, e = .returned v ∧ TrisO T w.heap.size w' v n f ∧ Below w.heap.size w w'
set_option maxHeartbeats 1000000 in
set_option maxRecDepth 100000 in
theorem items_any (w : World) (v : Value) (n : Nat) (f : Nat → Tri) (h : Tris w v n f) (hn : n * 24 ≤ 140737488355328) : Calls Try.prog 19 #[v] w (TrisPost ItT w n f) := by
  have HV := Lib.hid (fun W (hb : Below w.heap.size w W) => h.below hb)
  obtain ⟨p, cap, rfl, hm, _⟩ := h
  obtain ⟨i0, hi, hz0, hz1, hz2⟩ := info_parts Try.infIt
  go_enter Try.func19, Try.ntmps19
  go_wp2_with fail
  go_loopw [3, 4] (fun ov iv wr => ∃ (k : Nat), k ≤ n ∧ iv = .int .i64 k ∧ Hid (TrisO ItT w.heap.size wr ov k f) ∧ Hid (Below w.heap.size w wr)) (fun _ iv _ => n - (intOf iv).toNat)
  case atStart => exact ⟨0, Nat.zero_le _, rfl, Lib.hid (nil_tris _ _ _ _), Lib.hid (Below.refl _ _)⟩
  case round =>
    obtain ⟨k, hk, rfl, HO, HB⟩ := hrel
    by_cases hlt : k < n
    · have hlt' : (k : Int) < (n : Int) := by omega
      have k0 : (0 : Int) ≤ (k : Int) := by omega
      obtain ⟨_, _, hsl, _, hcs⟩ := HV.out wr HB.out
      injection hsl with hs1 hs2 hs3
      subst hs1 hs3
      obtain ⟨b1, off, rfl, c0, c1, c2⟩ := hcs k hlt
      clear hcs hs2
      have HE := Lib.hid (triL_succ f k)
      generalize (f k).a = xa at *
      generalize (f k).b = xb at *
      generalize (f k).c = xc at *
      go_wp2_with (at_builtin; refine wpList_append_own _ rfl _ _ 40 rfl w.heap.size ItT i0 (.agg #[.int .i64 0, .int .i64 0, .int .i64 0]) 3 24 Try.underlying40 hi hz0 hz1 hz2 rfl (by decide) _ _ _ rfl (HO.out.alloc _) ⟨wr.heap.size, 0, none⟩ 1 1 [.int .i64 xa, .int .i64 xb, .int .i64 xc] rfl rfl (news3 wr _ _ _ _) ?a2 ?a3 ?a4 ?a5 ?_)
      case a2 => intro u hu; simp at hu; rcases hu with rfl | rfl | rfl <;> rfl
      case a3 => unfold maxLen; omega
      case a4 => omega
      case a5 => have := HB.out.size; simp; omega
      intro v' w2 hown2 hgrow2 _
      have HO1 := Lib.hid (show TrisO ItT w.heap.size w2 v' (k + 1) f from by
        show w2.ownsRow _ _ 3 v' (k + 1) (triL f (k + 1))
        rw [HE.out]; exact hown2)
      have HB2 := Lib.hid ((below_alloc HB.out (.cells #[.int .i64 xa, .int .i64 xb, .int .i64 xc] ItT)).grown hgrow2 (by have := HB.out.size; simp; omega) (fun g e => (HO.out.lt g e).1))
      clear hown2 hgrow2
      go_wp2_with fail
      go_roundw
      case rel => exact ⟨k + 1, by omega, by go_num, HO1, HB2⟩
      case measure => simp [intOf]; omega
    · have hge : decide (k < n) = false := decide_eq_false hlt
      obtain rfl : k = n := by omega
      clear hlt
      go_wp2_with fail
      go_ret
      exact ⟨_, rfl, HO.out, HB.out⟩

/-- Is a number among the first n that is not nought? -/
def someB (f : Nat → Int) : Nat → Bool
  | 0 => false
  | n + 1 => someB f n || !(f n == 0)
theorem someB_stop {f : Nat → Int} {k : Nat} (h : f k ≠ 0) : ∀ n, k < n → someB f n = true
  | n + 1, hn => by
    simp only [someB]
    by_cases hk : k = n
    · subst hk; simp [h]
    · rw [someB_stop h n (by omega)]; rfl
theorem someB_next {f : Nat → Int} {k : Nat} (h0 : someB f k = false) (h1 : f k = 0) : someB f (k + 1) = false := by simp [someB, h0, h1]
theorem someB_false {f : Nat → Int} {n : Nat} : someB f n = false ↔ ∀ i, i < n → f i = 0 := by
  constructor
  · intro h i hi
    apply Classical.byContradiction
    intro h2
    rw [someB_stop h2 n hi] at h
    cases h
  · intro h
    induction n with
    | zero => rfl
    | succ n ih => exact someB_next (ih fun i hi => h i (by omega)) (h n (by omega))
theorem some_any (w : World) (v : Value) (n : Nat) (f : Nat → Int) (h : Nums w v n f) : Calls Try.prog 31 #[v] w fun e w' => e = .returned (.bool (someB f n)) ∧ w = w' := by
  have HV := Lib.hid h
  obtain ⟨p, cap, rfl, hm, _⟩ := h
  go_enter Try.func31, Try.ntmps31
  go_wp2_with fail
  go_loop [3] (fun iv => ∃ (k : Nat), k ≤ n ∧ iv = .int .i64 k ∧ Hid (someB f k = false)) (fun iv => n - (intOf iv).toNat)
  case atStart => exact ⟨0, Nat.zero_le _, rfl, Lib.hid rfl⟩
  case round =>
    obtain ⟨k, hk, rfl, H0⟩ := hrel
    by_cases hlt : k < n
    · have hlt' : (k : Int) < (n : Int) := by omega
      have k0 : (0 : Int) ≤ (k : Int) := by omega
      obtain ⟨_, _, hsl, _, hcs⟩ := HV.out
      injection hsl with hs1 hs2 hs3
      subst hs1 hs3
      obtain ⟨b, off, rfl, c0⟩ := hcs k hlt
      clear hcs hs2
      by_cases he : f k = 0
      · have HI := Lib.hid (someB_next H0.out he)
        rw [he] at c0
        clear he
        go_wp2_with fail
        go_round
        case rel => exact ⟨k + 1, by omega, by go_num, HI⟩
        case measure => simp [intOf]; omega
      · have HI := Lib.hid (someB_stop he n hlt)
        generalize f k = z at *
        have he' : (z == 0) = false := by rw [beq_eq_false_iff_ne]; exact he
        have he2 : (z != 0) = true := by rw [bne_iff_ne]; exact he
        clear he
        go_wp2_with fail
        go_ret
        exact ⟨by rw [HI.out]; rfl, rfl⟩
    · have hge : decide (k < n) = false := decide_eq_false hlt
      obtain rfl : k = n := by omega
      clear hlt
      go_wp2_with fail
      go_ret
      exact ⟨by rw [H0.out]; rfl, rfl⟩
end Go.Proofs.Ytfahpjilgdlhiaa
