/- The document's own number: the digits at a place of a text; no condition but those that each row names. -/
import Derived.Test.YtokplbfjpabolaaDoorHParts
import Derived.Test.YtokplbfjpabolaaDoorHRead
namespace Go.Proofs.YtokplbfjpabolaaDoor
open Go.RowKit

theorem numR_stop {f : Nat} {n : Int} {l : List UInt8} (h : ∀ b, l.head? = some b → ¬ isD b) : numR f n l = (n, 0) := by
  cases f with
  | zero => rfl
  | succ f =>
    cases l with
    | nil => rfl
    | cons b r => unfold numR; rw [if_neg (h b rfl)]
theorem numR_step {f : Nat} {n : Int} {b : UInt8} {r : List UInt8} (h : isD b) : numR (f + 1) n (b :: r) = ((numR f (10 * n + ((b.toNat : Int) - 48)) r).1, (numR f (10 * n + ((b.toNat : Int) - 48)) r).2 + 1) := by
  rw [numR, if_pos h]

/-- What is left behind k digits. -/
def NumAt (l : List UInt8) (k : Nat) (n : Int) : Prop :=
  0 ≤ n ∧ n < (10 ^ k : Nat) ∧ numR 6 0 l = ((numR (6 - k) n (l.drop k)).1, (numR (6 - k) n (l.drop k)).2 + k)
theorem NumAt.start (l : List UInt8) : NumAt l 0 0 := ⟨by omega, by omega, rfl⟩
theorem NumAt.next {l : List UInt8} {k : Nat} {n : Int} {b : UInt8} (h : NumAt l k n) (hk : k < 6) (hb : l[k]? = some b) (hd : isD b) : NumAt l (k + 1) (10 * n + ((b.toNat : Int) - 48)) := by
  obtain ⟨h1, h2, h3⟩ := h
  have hd' := hd
  unfold isD at hd'
  have hlt : k < l.length := (List.getElem?_eq_some_iff.1 hb).1
  have e : l.drop k = b :: l.drop (k + 1) := by rw [List.drop_eq_getElem_cons hlt, (List.getElem?_eq_some_iff.1 hb).2]
  refine ⟨by omega, by rw [Nat.pow_succ]; omega, ?_⟩
  rw [h3, e, show 6 - k = (6 - (k + 1)) + 1 by omega, numR_step hd]
  simp only
  rw [Nat.add_assoc, Nat.add_comm 1 k]
theorem NumAt.done {l : List UInt8} {k : Nat} {n : Int} (h : NumAt l k n) (hs : k = 6 ∨ ∀ b, l[k]? = some b → ¬ isD b) : numR 6 0 l = (n, k) := by
  obtain ⟨_, _, h3⟩ := h
  rw [h3]
  have e : numR (6 - k) n (l.drop k) = (n, 0) := by
    rcases hs with rfl | hs
    · rfl
    · refine numR_stop fun b hb => hs b ?_
      rw [List.head?_drop] at hb; exact hb
  rw [e]
  simp
theorem NumAt.bd {l : List UInt8} {k : Nat} {n : Int} (h : NumAt l k n) (hk : k ≤ 6) : 0 ≤ n ∧ n < 1000000 := by
  refine ⟨h.1, Int.lt_of_lt_of_le h.2.1 ?_⟩
  have : 10 ^ k ≤ 10 ^ 6 := Nat.pow_le_pow_right (by omega) hk
  have e : (10 : Nat) ^ 6 = 1000000 := by decide
  rw [e] at this
  omega
/-- Is it a number without needless noughts? -/
def okB (l : List UInt8) : Bool := decide (okN l (numR 6 0 l).2)
theorem okB_of {l : List UInt8} {n : Int} {k : Nat} (h : numR 6 0 l = (n, k)) : okB l = decide (okN l k) := by unfold okB; rw [h]
theorem ret_num {a c x z : Int} {p q : Bool} (h1 : a = x) (h2 : c = z) (h3 : p = q) : Ending.returned (.tuple #[.int .i64 a, .int .i64 c, .bool p]) = .returned (.tuple #[.int .i64 x, .int .i64 z, .bool q]) := by rw [h1, h2, h3]
theorem byteAtB (s : ByteArray) (k : Nat) (h : k < s.size) : s.data.toList[k]? = some s[k] := by
  rw [List.getElem?_eq_getElem (by rw [Array.length_toList]; exact h)]; rfl

set_option maxHeartbeats 4000000 in
set_option maxRecDepth 100000 in
theorem number_ref (s : ByteArray) (f : Nat) (w : World) (hs : s.size ≤ 32) (hf : f ≤ s.size) :
    Calls Tryd.prog 36 #[.string s, .int .i64 f] w fun e w' => e = .returned (.tuple #[.int .i64 (numR 6 0 (s.data.toList.drop f)).1, .int .i64 (f + (numR 6 0 (s.data.toList.drop f)).2 : Nat), .bool (okB (s.data.toList.drop f))]) ∧ w = w' := by
  go_enter Tryd.func36, Tryd.ntmps36
  go_wp2_with fail
  go_loop [1, 8] (fun at' n' => ∃ (a : Nat) (n : Int), f ≤ a ∧ a ≤ f + 6 ∧ a ≤ s.size ∧ at' = .int .i64 a ∧ n' = .int .i64 n ∧ 0 ≤ n ∧ n < 1000000 ∧ Hid (NumAt (s.data.toList.drop f) (a - f) n)) (fun at' _ => s.size - (intOf at').toNat)
  case atStart => exact ⟨f, 0, by omega, by omega, by omega, rfl, rfl, by omega, by omega, Lib.hid (by rw [Nat.sub_self]; exact NumAt.start _)⟩
  case round =>
    obtain ⟨a, n, h1, h2, h3, rfl, rfl, n0, n1, HN⟩ := hrel
    by_cases hgo : ∃ hl : a < s.size, isD (s[a]'hl) ∧ a < f + 6
    · obtain ⟨hl, hd, h6⟩ := hgo
      have hn' := HN.out.next (by omega) (by rw [List.getElem?_drop, show f + (a - f) = a by omega]; exact byteAtB s a hl) hd
      rw [show a - f + 1 = a + 1 - f by omega] at hn'
      have hbd := hn'.bd (by omega)
      unfold isD at hd
      obtain ⟨d1, d2⟩ := hd
      have d1' : (48 : Int) ≤ (s[a].toNat : Int) := by omega
      have d2' : (s[a].toNat : Int) ≤ 57 := by omega
      obtain ⟨g0, g1⟩ := hbd
      have HN' := Lib.hid hn'
      clear hn' HN d1 d2
      go_wp2_with fail
      go_round
      case rel => exact ⟨a + 1, _, by omega, by omega, by omega, by go_num, rfl, g0, g1, HN'⟩
      case measure => simp [intOf]; omega
    · have hstop : a - f = 6 ∨ ∀ b, (s.data.toList.drop f)[a - f]? = some b → ¬ isD b := by
        by_cases h6 : a = f + 6
        · left; omega
        · right
          intro b hb hd
          rw [List.getElem?_drop, show f + (a - f) = a by omega] at hb
          have hl : a < s.size := by have := (List.getElem?_eq_some_iff.1 hb).1; rw [Array.length_toList] at this; exact this
          rw [byteAtB s a hl] at hb
          exact hgo ⟨hl, by rw [Option.some.inj hb]; exact hd, by omega⟩
      have HE := Lib.hid (HN.out.done hstop)
      clear hstop
      have hres : (a = f ∧ okB (s.data.toList.drop f) = false) ∨ (∃ hl : f < s.size, f < a ∧ s[f].toNat ≠ 48 ∧ okB (s.data.toList.drop f) = true) ∨
          (∃ hl : f < s.size, a = f + 1 ∧ s[f].toNat = 48 ∧ okB (s.data.toList.drop f) = true) ∨ (∃ hl : f < s.size, f + 1 < a ∧ s[f].toNat = 48 ∧ okB (s.data.toList.drop f) = false) := by
        rw [okB_of HE.out]
        by_cases ha : a = f
        · exact .inl ⟨ha, decide_eq_false fun h => by have := h.1; omega⟩
        · have hl : f < s.size := by omega
          have hb : (s.data.toList.drop f)[0]? = some s[f] := by rw [List.getElem?_drop]; exact byteAtB s f hl
          by_cases h48 : s[f].toNat = 48
          · have h48' : s[f] = 48 := UInt8.toNat_inj.1 h48
            by_cases ha1 : a = f + 1
            · exact .inr (.inr (.inl ⟨hl, ha1, h48, decide_eq_true ⟨by omega, .inr (by omega)⟩⟩))
            · refine .inr (.inr (.inr ⟨hl, by omega, h48, decide_eq_false fun h => ?_⟩))
              rcases h.2 with k | k
              · rw [hb, h48'] at k; exact k rfl
              · omega
          · refine .inr (.inl ⟨hl, by omega, h48, decide_eq_true ⟨by omega, .inl fun k => ?_⟩⟩)
            rw [hb] at k
            exact h48 (by rw [Option.some.inj k]; rfl)
      have hex : (s.size : Int) ≤ a ∨ (∃ hl : a < s.size, (s[a].toNat : Int) < 48) ∨ (∃ hl : a < s.size, (57 : Int) < (s[a].toNat : Int)) ∨ (∃ hl : a < s.size, (48 : Int) ≤ (s[a].toNat : Int) ∧ (s[a].toNat : Int) ≤ 57 ∧ a = f + 6) := by
        by_cases hl : a < s.size
        · right
          by_cases b1 : s[a].toNat < 48
          · exact .inl ⟨hl, by omega⟩
          · by_cases b2 : 57 < s[a].toNat
            · exact .inr (.inl ⟨hl, by omega⟩)
            · refine .inr (.inr ⟨hl, by omega, by omega, ?_⟩)
              have : ¬ a < f + 6 := fun k => hgo ⟨hl, ⟨by omega, by omega⟩, k⟩
              omega
        · left; omega
      clear hgo HN
      rcases hres with ⟨rfl, hr⟩ | ⟨hl, ha, hb, hr⟩ | ⟨hl, rfl, hb, hr⟩ | ⟨hl, ha, hb, hr⟩
      all_goals
        have HR := Lib.hid hr
        clear hr
        rcases hex with hx | ⟨hl2, hx⟩ | ⟨hl2, hx⟩ | ⟨hl2, hx, hx2, hx3⟩
      all_goals
        first
          | (exfalso; omega)
          | (try subst hx3
             go_wp2_with fail
             go_ret3
             exact ⟨ret_num (by rw [HE.out]) (by rw [HE.out]; simp only; omega) (by first | exact HR.out.symm | (rw [HR.out]; simp; done) | (rw [HR.out]; simp; omega)), rfl⟩)
end Go.Proofs.YtokplbfjpabolaaDoor
