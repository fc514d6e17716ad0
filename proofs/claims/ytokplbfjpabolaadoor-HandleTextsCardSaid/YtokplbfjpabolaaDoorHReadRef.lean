/- The document's own Read at every text; no condition. -/
import Derived.Test.YtokplbfjpabolaaDoorHNumber
import Derived.Test.YtokplbfjpabolaaDoorHLib
import Derived.Deep.QuietTactic
import Derived.BigQuiet
namespace Go.Proofs.YtokplbfjpabolaaDoor
open Go.RowKit

theorem rread_long (s : ByteArray) (hs : 32 < s.size) (w : World) :
    Calls Tryd.prog 24 #[.string s] w fun e w' => e = .returned (.tuple #[.int .i64 0, .int .i64 3]) ∧ Below w.heap.size w w' := by
  go_enter Tryd.func24, Tryd.ntmps24
  go_wp2_with fail
  go_ret2
  exact ⟨rfl, Below.refl _ _⟩
theorem rread_dash (w : World) :
    Calls Tryd.prog 24 #[.string ⟨#[45]⟩] w fun e w' => e = .returned (.tuple #[.int .i64 0, .int .i64 0]) ∧ Below w.heap.size w w' := by
  go_enter Tryd.func24, Tryd.ntmps24
  go_wp2_with fail
  go_ret2
  exact ⟨rfl, Below.refl _ _⟩
theorem rread_empty (w : World) :
    Calls Tryd.prog 24 #[.string ⟨#[]⟩] w fun e w' => e = .returned (.tuple #[.int .i64 0, .int .i64 4]) ∧ Below w.heap.size w w' := by
  go_enter Tryd.func24, Tryd.ntmps24
  go_wp2_with fail
  go_ret2
  exact ⟨rfl, Below.refl _ _⟩

theorem below_drewR {B : Nat} {a w : World} (h : Below B a w) (n : Nat) : Below B a (w.drewN n) := ⟨h.os, h.tape, h.output, h.size, h.block⟩
/-- The kind behind j of the three letters. -/
def kj (c : UInt8) : Nat → Int
  | 0 => 0
  | 1 => if c = 110 then 1 else 0
  | 2 => if c = 116 then 2 else if c = 110 then 1 else 0
  | _ => if c = 115 then 3 else if c = 116 then 2 else if c = 110 then 1 else 0
theorem kj_is (c : UInt8) : kj c 3 = kindL c := by
  by_cases h1 : c = 110
  · subst h1; decide
  · by_cases h2 : c = 116
    · subst h2; decide
    · by_cases h3 : c = 115
      · subst h3; decide
      · have e1 : ((110 : UInt8) == c) = false := by rw [beq_eq_false_iff_ne]; exact fun k => h1 k.symm
        have e2 : ((116 : UInt8) == c) = false := by rw [beq_eq_false_iff_ne]; exact fun k => h2 k.symm
        have e3 : ((115 : UInt8) == c) = false := by rw [beq_eq_false_iff_ne]; exact fun k => h3 k.symm
        simp [kj, kindL, Lib.indexByte, e1, e2, e3, h1, h2, h3]

theorem kindL_bd' (c : UInt8) : 0 ≤ kindL c ∧ kindL c ≤ 3 := by
  have h1 := Lib.indexByte_ge [110, 116, 115] c
  have h2 := indexByte_lt c [110, 116, 115]
  unfold kindL
  simp only [List.length_cons, List.length_nil] at h2
  omega
theorem ret_read {a b : Int} {p : Int × Int} (h : p = (a, b)) : Ending.returned (.tuple #[.int .i64 a, .int .i64 b]) = .returned (.tuple #[.int .i64 p.1, .int .i64 p.2]) := by rw [h]

set_option maxHeartbeats 4000000 in
set_option maxRecDepth 100000 in
theorem rread_full (s : ByteArray) (c : UInt8) (r : List UInt8) (h : s.data.toList = c :: r) (hs : s.size ≤ 32) (hd : c :: r ≠ [45]) (w : World) :
    Calls Tryd.prog 24 #[.string s] w fun e w' => e = .returned (.tuple #[.int .i64 (rread1 (kindL c) r).1, .int .i64 (rread1 (kindL c) r).2]) ∧ Below w.heap.size w w' := by
  have hl : s.data.toList.length = s.size := Array.length_toList
  rw [h] at hl
  have hr : r.length + 1 = s.size := hl
  have hpos : 0 < s.size := by omega
  have hne : s.toList.isEmpty = false := by rw [Lib.toList_data, h]; rfl
  have hnd : (s.toList == [45]) = false := by rw [beq_eq_false_iff_ne, Lib.toList_data, h]; exact hd
  have hc0 : s[0]'hpos = c := by
    have := byteAtB s 0 hpos
    rw [h] at this
    exact (Option.some.inj this).symm
  have e1 : s.data.toList.drop 1 = r := by rw [h]; rfl
  have hn1 : ∀ w, Calls Tryd.prog 36 #[.string s, .int .i64 1] w fun e w' => e = .returned (.tuple #[.int .i64 (numR 6 0 r).1, .int .i64 ((1 + (numR 6 0 r).2 : Nat) : Int), .bool (okB r)]) ∧ w = w' := fun w => by
    have k := number_ref s 1 w hs (by omega)
    rw [e1] at k
    exact k
  have hle := numR_le 6 0 r
  have hrr : rread1 (kindL c) r = if kindL c = 0 ∨ okB r = false ∨ r[(numR 6 0 r).2]? ≠ some 46 then (0, 4) else rread2 (kindL c) (numR 6 0 r).1 (r.drop ((numR 6 0 r).2 + 1)) := by
    unfold rread1 okB
    simp only [decide_eq_false_iff_not]
  have hat : ∀ k, r[k]? = s.data.toList[1 + k]? := fun k => by rw [h, Nat.add_comm]; rfl
  have hdr : ∀ k, r.drop k = s.data.toList.drop (k + 1) := fun k => by rw [h]; rfl
  have HAT := Lib.hid hat
  have HDR := Lib.hid hdr
  have HRR := Lib.hid hrr
  have HN := Lib.hid hn1
  have HK := Lib.hid (kj_is c)
  clear hn1 hrr hat hdr e1 h hd
  obtain ⟨y0, y3⟩ := kindL_bd' c
  generalize kindL c = y at *
  generalize okB r = b1 at *
  generalize hn : (numR 6 0 r).1 = n1 at *
  generalize hk : (numR 6 0 r).2 = k1 at *
  obtain ⟨m, hm⟩ : ∃ m, m = 1 + k1 := ⟨_, rfl⟩
  rw [← hm] at HN
  have hm1 : 1 ≤ m := by omega
  have hm7 : m ≤ 7 := by omega
  have hk1 : k1 = m - 1 := by omega
  subst hk1
  clear hm hn hk
  have q0 : ((⟨#[110, 116, 115]⟩ : ByteArray)[0]).toNat = 110 := rfl
  have q1 : ((⟨#[110, 116, 115]⟩ : ByteArray)[1]).toNat = 116 := rfl
  have q2 : ((⟨#[110, 116, 115]⟩ : ByteArray)[2]).toNat = 115 := rfl
  have hcn : ∀ k : UInt8, c = k ↔ c.toNat = k.toNat := fun k => UInt8.toNat_inj.symm
  have HCN := Lib.hid hcn
  clear hcn hl
  go_enter Tryd.func24, Tryd.ntmps24
  go_wp2_with fail
  go_loopw [4, 5] (fun kv iv wr => ∃ (j : Nat) (x : Int), j ≤ 3 ∧ iv = .int .i64 j ∧ kv = .int .i64 x ∧ Hid (x = kj c j) ∧ Below w.heap.size w wr) (fun _ i _ => 3 - (intOf i).toNat)
  case atStart => exact ⟨0, 0, by omega, rfl, rfl, Lib.hid rfl, Below.refl _ _⟩
  case round =>
    obtain ⟨j, x, hj, rfl, rfl, HX, hb⟩ := hrel
    have hjj : j = 0 ∨ j = 1 ∨ j = 2 ∨ j = 3 := by omega
    clear hj
    rcases hjj with rfl | rfl | rfl | rfl
    · by_cases hk : c.toNat = 110
      · have hk' : (c.toNat : Int) = 110 := by omega
        have HE : Hid (1 = kj c (0 + 1)) := by unfold Hid; simp only [kj]; rw [if_pos ((HCN.out 110).2 hk)]
        clear hk
        go_wp2_with fail
        go_quiet (fail)
        go_wp2_with fail
        go_roundw
        case rel => exact ⟨0 + 1, 1, by omega, by go_num, rfl, HE, below_drewR hb _⟩
        case measure => simp [intOf]
      · have hk' : ¬ (c.toNat : Int) = 110 := by omega
        have HE : Hid (x = kj c (0 + 1)) := by unfold Hid; rw [HX.out]; simp only [kj]; rw [if_neg fun e => hk ((HCN.out 110).1 e)]
        clear hk
        go_wp2_with fail
        go_quiet (fail)
        go_wp2_with fail
        go_roundw
        case rel => exact ⟨0 + 1, x, by omega, by go_num, rfl, HE, below_drewR hb _⟩
        case measure => simp [intOf]
    · by_cases hk : c.toNat = 116
      · have hk' : (c.toNat : Int) = 116 := by omega
        have HE : Hid (2 = kj c (1 + 1)) := by unfold Hid; simp only [kj]; rw [if_pos ((HCN.out 116).2 hk)]
        clear hk
        go_wp2_with fail
        go_quiet (fail)
        go_wp2_with fail
        go_roundw
        case rel => exact ⟨1 + 1, 2, by omega, by go_num, rfl, HE, below_drewR hb _⟩
        case measure => simp [intOf]
      · have hk' : ¬ (c.toNat : Int) = 116 := by omega
        have HE : Hid (x = kj c (1 + 1)) := by unfold Hid; rw [HX.out]; simp only [kj]; rw [if_neg fun e => hk ((HCN.out 116).1 e)]
        clear hk
        go_wp2_with fail
        go_quiet (fail)
        go_wp2_with fail
        go_roundw
        case rel => exact ⟨1 + 1, x, by omega, by go_num, rfl, HE, below_drewR hb _⟩
        case measure => simp [intOf]
    · by_cases hk : c.toNat = 115
      · have hk' : (c.toNat : Int) = 115 := by omega
        have HE : Hid (3 = kj c (2 + 1)) := by unfold Hid; simp only [kj]; rw [if_pos ((HCN.out 115).2 hk)]
        clear hk
        go_wp2_with fail
        go_quiet (fail)
        go_wp2_with fail
        go_roundw
        case rel => exact ⟨2 + 1, 3, by omega, by go_num, rfl, HE, below_drewR hb _⟩
        case measure => simp [intOf]
      · have hk' : ¬ (c.toNat : Int) = 115 := by omega
        have HE : Hid (x = kj c (2 + 1)) := by unfold Hid; rw [HX.out]; simp only [kj]; rw [if_neg fun e => hk ((HCN.out 115).1 e)]
        clear hk
        go_wp2_with fail
        go_quiet (fail)
        go_wp2_with fail
        go_roundw
        case rel => exact ⟨2 + 1, x, by omega, by go_num, rfl, HE, below_drewR hb _⟩
        case measure => simp [intOf]
    · obtain rfl : x = y := HX.out.trans HK.out
      clear HX HK HCN q0 q1 q2
      by_cases hy : x = 0
      · subst hy
        have HF : Hid (rread1 0 r = (0, 4)) := by unfold Hid; rw [HRR.out, if_pos (.inl rfl)]
        go_wp2_with fail
        refine (HN.out _).mono ?_
        rintro e w1 ⟨rfl, rfl⟩
        go_wp2_with fail
        go_ret2
        exact ⟨ret_read HF.out, hb⟩
      · have hy1 : 1 ≤ x := by omega
        have hx0 : (x == 0) = false := by rw [beq_eq_false_iff_ne]; exact hy
        cases b1 with
        | false =>
          have HF : Hid (rread1 x r = (0, 4)) := by unfold Hid; rw [HRR.out, if_pos (.inr (.inl rfl))]
          clear hy
          go_wp2_with fail
          refine (HN.out _).mono ?_
          rintro e w1 ⟨rfl, rfl⟩
          go_wp2_with fail
          go_ret2
          exact ⟨ret_read HF.out, hb⟩
        | true =>
          by_cases hlm : m < s.size
          · have hdm : decide (s.size ≤ m) = false := decide_eq_false (by omega)
            have hbyte : r[m - 1]? = some s[m] := by rw [HAT.out, show 1 + (m - 1) = m by omega]; exact byteAtB s m hlm
            by_cases hdot : s[m].toNat = 46
            · have hs46 : s[m] = 46 := UInt8.toNat_inj.1 hdot
              have hF : rread1 x r = rread2 x n1 (r.drop m) := by
                rw [HRR.out, if_neg, show m - 1 + 1 = m by omega]
                rintro (k | k | k)
                · exact hy k
                · cases k
                · rw [hbyte, hs46] at k; exact k rfl
              have hn2 : ∀ w, Calls Tryd.prog 36 #[.string s, .int .i64 ((m : Int) + 1)] w fun e w' => e = .returned (.tuple #[.int .i64 (numR 6 0 (r.drop m)).1, .int .i64 ((m + 1 + (numR 6 0 (r.drop m)).2 : Nat) : Int), .bool (okB (r.drop m))]) ∧ w = w' := fun w => by
                have k := number_ref s (m + 1) w hs (by omega)
                rw [← HDR.out] at k
                exact k
              have hlen : (r.drop m).length + (m + 1) = s.size := by rw [List.length_drop]; omega
              have hle2 := numR_le 6 0 (r.drop m)
              unfold rread2 at hF
              have hb2 : okB (r.drop m) = decide (okN (r.drop m) (numR 6 0 (r.drop m)).2) := rfl
              have hs' : (s[m].toNat : Int) = 46 := by omega
              clear hy hbyte hdot hs46
              have HM := Lib.hid (fun g (h : okP x n1 g) w => rmake_ok x n1 g w h)
              have HMN := Lib.hid (fun g (h : ¬ okP x n1 g) w => rmake_no x n1 g w h)
              generalize (numR 6 0 (r.drop m)).1 = n2 at *
              generalize (numR 6 0 (r.drop m)).2 = k2 at *
              generalize okB (r.drop m) = b2 at *
              obtain ⟨z, hz⟩ : ∃ z, z = m + 1 + k2 := ⟨_, rfl⟩
              rw [← hz] at hn2
              have HN2 := Lib.hid hn2
              have hF' : rread1 x r = if b2 = false ∨ z ≠ s.size ∨ ¬ okP x n1 n2 then (0, 4) else (mkH x n1 n2, 0) := by
                rw [hF]
                have e : k2 = (r.drop m).length ↔ z = s.size := by constructor <;> intro k <;> omega
                have e2 : (¬ okN (r.drop m) k2 ∨ k2 ≠ (r.drop m).length ∨ ¬ okP x n1 n2) ↔ (b2 = false ∨ z ≠ s.size ∨ ¬ okP x n1 n2) := by rw [hb2]; simp only [decide_eq_false_iff_not, ne_eq, e]
                by_cases hc : b2 = false ∨ z ≠ s.size ∨ ¬ okP x n1 n2
                · rw [if_pos hc, if_pos (e2.2 hc)]
                · rw [if_neg hc, if_neg fun k => hc (e2.1 k)]
              have HF := Lib.hid hF'
              clear hn2 hF hF' hb2 hle2
              by_cases hp : okP x n1 n2
              · have JM := Lib.hid (HM.out _ hp)
                cases b2 with
                | false =>
                  have HG : Hid (rread1 x r = (0, 4)) := by unfold Hid; rw [HF.out, if_pos (.inl rfl)]
                  clear hp hlen hz
                  go_wp2_with fail
                  refine (HN.out _).mono ?_
                  rintro e w1 ⟨rfl, rfl⟩
                  go_wp2_with fail
                  refine (HN2.out _).mono ?_
                  rintro e w1 ⟨rfl, rfl⟩
                  go_wp2_with fail
                  refine (JM.out _).mono ?_
                  rintro e w1 ⟨rfl, rfl⟩
                  go_wp2_with fail
                  go_ret2
                  exact ⟨ret_read HG.out, hb⟩
                | true =>
                  by_cases hend : z = s.size
                  · have HG : Hid (rread1 x r = (mkH x n1 n2, 0)) := by
                      unfold Hid; rw [HF.out, if_neg]
                      rintro (k | k | k)
                      · cases k
                      · exact k hend
                      · exact k hp
                    have he1 : (z : Int) = s.size := by omega
                    clear hp hlen hz hend
                    go_wp2_with fail
                    refine (HN.out _).mono ?_
                    rintro e w1 ⟨rfl, rfl⟩
                    go_wp2_with fail
                    refine (HN2.out _).mono ?_
                    rintro e w1 ⟨rfl, rfl⟩
                    go_wp2_with fail
                    refine (JM.out _).mono ?_
                    rintro e w1 ⟨rfl, rfl⟩
                    go_wp2_with fail
                    go_ret2
                    exact ⟨ret_read HG.out, hb⟩
                  · have HG : Hid (rread1 x r = (0, 4)) := by unfold Hid; rw [HF.out, if_pos (.inr (.inl hend))]
                    have he1 : ¬ (z : Int) = s.size := by omega
                    clear hp hlen hz hend
                    go_wp2_with fail
                    refine (HN.out _).mono ?_
                    rintro e w1 ⟨rfl, rfl⟩
                    go_wp2_with fail
                    refine (HN2.out _).mono ?_
                    rintro e w1 ⟨rfl, rfl⟩
                    go_wp2_with fail
                    refine (JM.out _).mono ?_
                    rintro e w1 ⟨rfl, rfl⟩
                    go_wp2_with fail
                    go_ret2
                    exact ⟨ret_read HG.out, hb⟩
              · have JM := Lib.hid (HMN.out _ hp)
                have HG : Hid (rread1 x r = (0, 4)) := by unfold Hid; rw [HF.out, if_pos (.inr (.inr hp))]
                clear hp hlen hz
                cases b2
                all_goals
                  by_cases hend : z = s.size
                all_goals
                  first
                    | (have he1 : (z : Int) = s.size := by omega)
                    | (have he1 : ¬ (z : Int) = s.size := by omega)
                  clear hend
                  go_wp2_with fail
                  refine (HN.out _).mono ?_
                  rintro e w1 ⟨rfl, rfl⟩
                  go_wp2_with fail
                  refine (HN2.out _).mono ?_
                  rintro e w1 ⟨rfl, rfl⟩
                  go_wp2_with fail
                  refine (JM.out _).mono ?_
                  rintro e w1 ⟨rfl, rfl⟩
                  go_wp2_with fail
                  go_ret2
                  exact ⟨ret_read HG.out, hb⟩
            · have h46 : r[m - 1]? ≠ some 46 := by
                rw [hbyte]
                intro k
                exact hdot (by rw [Option.some.inj k]; rfl)
              have HF : Hid (rread1 x r = (0, 4)) := by unfold Hid; rw [HRR.out, if_pos (.inr (.inr h46))]
              clear h46
              have hd' : ¬ (s[m].toNat : Int) = 46 := by omega
              clear hy hdot hbyte
              go_wp2_with fail
              refine (HN.out _).mono ?_
              rintro e w1 ⟨rfl, rfl⟩
              go_wp2_with fail
              go_ret2
              exact ⟨ret_read HF.out, hb⟩
          · have h46 : r[m - 1]? ≠ some 46 := by rw [List.getElem?_eq_none (by omega)]; simp
            have HF : Hid (rread1 x r = (0, 4)) := by unfold Hid; rw [HRR.out, if_pos (.inr (.inr h46))]
            clear h46
            have hge : (s.size : Int) ≤ m := by omega
            clear hy hlm
            go_wp2_with fail
            refine (HN.out _).mono ?_
            rintro e w1 ⟨rfl, rfl⟩
            go_wp2_with fail
            go_ret2
            exact ⟨ret_read HF.out, hb⟩

theorem rread_any (s : ByteArray) (hs : s.size ≤ 32) (w : World) :
    Calls Tryd.prog 24 #[.string s] w fun e w' => e = .returned (.tuple #[.int .i64 (rreadV s.data.toList).1, .int .i64 (rreadV s.data.toList).2]) ∧ Below w.heap.size w w' := by
  have hl : s.data.toList.length = s.size := Array.length_toList
  cases h : s.data.toList with
  | nil =>
    obtain rfl : s = ⟨#[]⟩ := ba_of_list h
    exact rread_empty w
  | cons c r =>
    by_cases hd : c :: r = [45]
    · rw [hd]
      rw [hd] at h
      obtain rfl : s = ⟨#[45]⟩ := ba_of_list h
      exact rread_dash w
    · have e : rreadV (c :: r) = rread1 (kindL c) r := by
        unfold rreadV
        rw [if_neg (by rw [← h, hl]; omega), if_neg hd]
      rw [e]
      exact rread_full s c r h hs hd w
end Go.Proofs.YtokplbfjpabolaaDoor
