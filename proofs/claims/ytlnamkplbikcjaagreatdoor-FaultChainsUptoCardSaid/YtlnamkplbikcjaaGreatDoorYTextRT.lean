/- The document's text, with names: an error's text; no condition but that it is of 2^40 bytes at most. -/
import Derived.Test.YtlnamkplbikcjaaGreatDoorYIn
import Derived.Test.YtlnamkplbikcjaaGreatDoorYRefW
import Derived.Test.YtlnamkplbikcjaaGreatDoorYTextL
import Derived.Deep.RegionHeld3
namespace Go.Proofs.YtlnamkplbikcjaaGreatDoor
open Go.RowKit Ft

theorem kx_yesT {k c : Int} (h : k = c) : (k == c) = true := by subst h; exact beq_self_eq_true k
theorem kx_noT {k c : Int} (h : k ≠ c) : (k == c) = false := beq_eq_false_iff_ne.2 h
/-- What text answers. -/
def TxPT (w : World) (d : Dt) (r : Ending) (w' : World) : Prop := r = .returned (.string ⟨(d.toE.txt true).toArray⟩) ∧ Below w.heap.size w w'
set_option maxHeartbeats 8000000 in
set_option maxRecDepth 100000 in
theorem text_genT (d : Dt) (hok : d.ok) (hlen : (d.toE.txt true).length ≤ 1099511627776) (w0 : World)
    (ih0 : (d.k = 2 ∨ d.k = 3 ∨ d.k = 4) → ∀ (v : Value) (w : World), Below w0.heap.size w0 w → DV w0 d.kid0 v → Calls Tryz.prog 29 #[v, .bool true] w (TxPT w d.kid0))
    (ih1 : d.k = 4 → ∀ (v : Value) (w : World), Below w0.heap.size w0 w → DV w0 d.kid1 v → Calls Tryz.prog 29 #[v, .bool true] w (TxPT w d.kid1))
    (v : Value) (w : World) (hb0 : Below w0.heap.size w0 w) (hv : DV w0 d v) : Calls Tryz.prog 29 #[v, .bool true] w (TxPT w d) := by
  obtain ⟨p, cap, rfl, hm, h0, h1⟩ := hv.parts
  have HI0 := Lib.hid (fun W (hW : Below w.heap.size w W) => (rin0 d _ w0 W (bnext hb0 hW) hv).mono (R' := fun r w' => ∃ x, r = .returned x ∧ DV w0 d.kid0 x ∧ Below W.heap.size W w') (fun _ _ h => h))
  have HI1 := Lib.hid (fun W (hW : Below w.heap.size w W) => (rin1 d _ w0 W (bnext hb0 hW) hv).mono (R' := fun r w' => ∃ x, r = .returned x ∧ DV w0 d.kid1 x ∧ Below W.heap.size W w') (fun _ _ h => h))
  have HX0 := Lib.hid (fun hq v W (hW : Below w.heap.size w W) hv => (ih0 hq v W (bnext hb0 hW) hv).mono (R' := fun r w' => r = .returned (.string ⟨(d.kid0.toE.txt true).toArray⟩) ∧ Below W.heap.size W w') (fun _ _ h => h))
  have HX1 := Lib.hid (fun hq v W (hW : Below w.heap.size w W) hv => (ih1 hq v W (bnext hb0 hW) hv).mono (R' := fun r w' => r = .returned (.string ⟨(d.kid1.toE.txt true).toArray⟩) ∧ Below W.heap.size W w') (fun _ _ h => h))
  have HOp := Lib.hid (ropname d.op (Dt.ok_op hok))
  have HTo := Lib.hid (rtold d.h (Dt.ok_h hok))
  have HSg := Lib.hid (signed_any d.n (Dt.ok_n hok))
  have HNm := Lib.hid (rname16 d.n)
  have l1 := opL_lenR d.op (itoa_len d.op (Dt.ok_op hok))
  have l2 := toldL_lenR d.h (itoa_len d.h (Dt.ok_h hok))
  have l3 := itoa_len d.n (Dt.ok_n hok)
  have HE := Lib.hid (Dt.toE_eq d)
  unfold TxPT
  rw [HE.out] at hlen ⊢
  clear hv h0 h1 ih0 ih1 hb0 HE hok
  generalize d.k = k at *; generalize d.op = op at *; generalize d.h = h at *; generalize d.n = n at *; generalize d.t = t at *; generalize d.m = m at *
  generalize d.kid0 = e0 at *; generalize d.kid1 = e1 at *
  generalize e0.toE = E0 at *; generalize e1.toE = E1 at *
  have hbx : Below w.heap.size w (w.alloc (.cells #[.int .i64 k, .int .i64 op, .int .i64 h, .int .i64 n, .string t, .slice p m cap] 25)) := (by repeat (first | exact Below.refl _ _ | (with_reducible assumption) | refine Below.drew ?_ | (refine Below.alloc ?_ (by first | exact Nat.le_refl _ | omega | (simp; done) | (simp; omega)) _) | (refine Below.setCell ?_ (by first | omega | (simp; done) | (simp; omega)) _)))
  have HB := Lib.hid hbx
  have HD := Lib.hid (below_drew hbx)
  clear hbx
  by_cases k1 : k = 1
  · rw [if_pos k1] at hlen ⊢
    have q1 := kx_yesT k1
    clear k1
    have n1 : ¬ 9223372036854775807 < 6 + (Lib.itoa n).length := by omega
    simp only [Er.txt] at hlen ⊢
    clear hlen l1 l2 l3
    cases hx : nameL n with
    | nil =>
      have HQ := Lib.hid (show nbrL true n = errL n by unfold nbrL; rw [hx, if_neg (by simp)])
      rw [hx] at HNm
      clear hx
      go_enter Tryz.func29, Tryz.ntmps29
      go_wp2_with fail
      refine (HNm.out _).mono ?_
      rintro r w1 ⟨rfl, hb1⟩
      have c3 : w1.cell? ⟨w.heap.size, 3, none⟩ = some (.int .i64 n) := (hb1.cell (p := ⟨w.heap.size, 3, none⟩) (by simp)).trans (by simp)
      go_wp2_with fail
      refine (HSg.out _).mono ?_
      rintro r w2 ⟨rfl, hb2⟩
      go_wp2_with fail
      go_ret
      exact ⟨ret_str (by rw [HQ.out]; unfold errL; rw [← cat2]), bnext (bnext HB.out hb1) hb2⟩
    | cons a A =>
      have HQ := Lib.hid (show nbrL true n = a :: A by unfold nbrL; rw [hx, if_pos (by simp)])
      rw [hx] at HNm
      clear hx
      go_enter Tryz.func29, Tryz.ntmps29
      go_wp2_with fail
      refine (HNm.out _).mono ?_
      rintro r w1 ⟨rfl, hb1⟩
      go_wp2_with fail
      go_ret
      exact ⟨by rw [HQ.out]; rfl, bnext HB.out hb1⟩
  rw [if_neg k1] at hlen ⊢
  have q1 := kx_noT k1
  clear k1
  by_cases k2 : k = 2
  · rw [if_pos k2] at hlen ⊢
    have q2 := kx_yesT k2
    have HX0 := Lib.hid (HX0.out (.inl k2))
    clear k2
    have hl : (fltL op h).length + (E0.txt true).length ≤ 1099511627776 := by have := hlen; simp only [Er.txt, List.length_append] at this; exact this
    have hfl : (fltL op h).length = (opL op).length + 1 + (toldL h).length + 2 := by unfold fltL; simp only [List.length_append, List.length_cons, List.length_nil]; omega
    have n1 : ¬ 9223372036854775807 < (opL op).length + 1 := by omega
    have n2 : ¬ 9223372036854775807 < (opL op).length + 1 + (toldL h).length := by omega
    have n3 : ¬ 9223372036854775807 < (opL op).length + 1 + (toldL h).length + 2 := by omega
    have n4 : ¬ 9223372036854775807 < (opL op).length + 1 + (toldL h).length + 2 + (E0.txt true).length := by omega
    have HC := Lib.hid (show (⟨(opL op).toArray⟩ : ByteArray) ++ ⟨#[32]⟩ ++ ⟨(toldL h).toArray⟩ ++ ⟨#[58, 32]⟩ ++ ⟨(E0.txt true).toArray⟩ = ⟨((Er.fault op h E0).txt true).toArray⟩ from ba_of_list (by simp [ByteArray.data_append, fltL, Er.txt]))
    clear hlen hl hfl l1 l2 l3
    go_enter Tryz.func29, Tryz.ntmps29
    go_wp2_with fail
    go_region_held3 (fun w' => w'.cell? ⟨w.heap.size, 0, none⟩ = some (.int .i64 k) ∧ w'.cell? ⟨w.heap.size, 1, none⟩ = some (.int .i64 op) ∧ w'.cell? ⟨w.heap.size, 2, none⟩ = some (.int .i64 h) ∧ w'.cell? ⟨w.heap.size, 3, none⟩ = some (.int .i64 n) ∧ w'.cell? ⟨w.heap.size, 4, none⟩ = some (.string t) ∧ w'.cell? ⟨w.heap.size, 5, none⟩ = some (.slice p m cap) ∧ Below w.heap.size w w')
      (first
      | exact ⟨by simp, by simp, by simp, by simp, by simp, by simp, HD.out⟩
      | (go_split_ands; refine ⟨(hb.cell (p := ⟨w.heap.size, 0, none⟩) (cell_lt (by assumption))).trans (by assumption), (hb.cell (p := ⟨w.heap.size, 1, none⟩) (cell_lt (by assumption))).trans (by assumption), (hb.cell (p := ⟨w.heap.size, 2, none⟩) (cell_lt (by assumption))).trans (by assumption), (hb.cell (p := ⟨w.heap.size, 3, none⟩) (cell_lt (by assumption))).trans (by assumption), (hb.cell (p := ⟨w.heap.size, 4, none⟩) (cell_lt (by assumption))).trans (by assumption), (hb.cell (p := ⟨w.heap.size, 5, none⟩) (cell_lt (by assumption))).trans (by assumption), bnext (by assumption) hb⟩)
      | go_keep)
      (first | (go_at_call 44; with_reducible refine (HOp.out _).mono ?_; rintro r w' ⟨rfl, hb⟩) | (go_at_call 45; with_reducible refine (HTo.out _).mono ?_; rintro r w' ⟨rfl, hb⟩) | (go_at_call 32; with_reducible refine (HI0.out _ (by first | assumption | (go_split_ands; assumption))).mono ?_; rintro r w' ⟨x0, rfl, hx0, hb⟩) | (go_at_call 29; with_reducible refine (HX0.out _ _ (by first | assumption | (go_split_ands; assumption)) hx0).mono ?_; rintro r w' ⟨rfl, hb⟩))
    all_goals
      go_split_ands
      go_wp2_with fail
      go_ret
      exact ⟨ret_str HC.out, by assumption⟩
  rw [if_neg k2] at hlen ⊢
  have q2 := kx_noT k2
  clear k2
  by_cases k3 : k = 3
  · rw [if_pos k3] at hlen ⊢
    have q3 := kx_yesT k3
    have HX0 := Lib.hid (HX0.out (.inr (.inl k3)))
    clear k3
    have hl : (plcL n).length + (E0.txt true).length ≤ 1099511627776 := by have := hlen; simp only [Er.txt, List.length_append] at this; exact this
    have hfl : (plcL n).length = 5 + (Lib.itoa n).length + 2 := by unfold plcL; simp only [List.length_append, List.length_cons, List.length_nil]; omega
    have n1 : ¬ 9223372036854775807 < 5 + (Lib.itoa n).length := by omega
    have n2 : ¬ 9223372036854775807 < 5 + (Lib.itoa n).length + 2 := by omega
    have n3 : ¬ 9223372036854775807 < 5 + (Lib.itoa n).length + 2 + (E0.txt true).length := by omega
    have HC := Lib.hid (show (⟨#[108, 105, 110, 101, 32]⟩ : ByteArray) ++ ⟨(Lib.itoa n).toArray⟩ ++ ⟨#[58, 32]⟩ ++ ⟨(E0.txt true).toArray⟩ = ⟨((Er.place n E0).txt true).toArray⟩ from ba_of_list (by simp [ByteArray.data_append, plcL, Er.txt]))
    clear hlen hl hfl l1 l2 l3
    go_enter Tryz.func29, Tryz.ntmps29
    go_wp2_with fail
    go_region_held3 (fun w' => w'.cell? ⟨w.heap.size, 0, none⟩ = some (.int .i64 k) ∧ w'.cell? ⟨w.heap.size, 1, none⟩ = some (.int .i64 op) ∧ w'.cell? ⟨w.heap.size, 2, none⟩ = some (.int .i64 h) ∧ w'.cell? ⟨w.heap.size, 3, none⟩ = some (.int .i64 n) ∧ w'.cell? ⟨w.heap.size, 4, none⟩ = some (.string t) ∧ w'.cell? ⟨w.heap.size, 5, none⟩ = some (.slice p m cap) ∧ Below w.heap.size w w')
      (first
      | exact ⟨by simp, by simp, by simp, by simp, by simp, by simp, HD.out⟩
      | (go_split_ands; refine ⟨(hb.cell (p := ⟨w.heap.size, 0, none⟩) (cell_lt (by assumption))).trans (by assumption), (hb.cell (p := ⟨w.heap.size, 1, none⟩) (cell_lt (by assumption))).trans (by assumption), (hb.cell (p := ⟨w.heap.size, 2, none⟩) (cell_lt (by assumption))).trans (by assumption), (hb.cell (p := ⟨w.heap.size, 3, none⟩) (cell_lt (by assumption))).trans (by assumption), (hb.cell (p := ⟨w.heap.size, 4, none⟩) (cell_lt (by assumption))).trans (by assumption), (hb.cell (p := ⟨w.heap.size, 5, none⟩) (cell_lt (by assumption))).trans (by assumption), bnext (by assumption) hb⟩)
      | go_keep)
      (first | (go_at_call 43; with_reducible refine (HSg.out _).mono ?_; rintro r w' ⟨rfl, hb⟩) | (go_at_call 32; with_reducible refine (HI0.out _ (by first | assumption | (go_split_ands; assumption))).mono ?_; rintro r w' ⟨x0, rfl, hx0, hb⟩) | (go_at_call 29; with_reducible refine (HX0.out _ _ (by first | assumption | (go_split_ands; assumption)) hx0).mono ?_; rintro r w' ⟨rfl, hb⟩))
    all_goals
      go_split_ands
      go_wp2_with fail
      go_ret
      exact ⟨ret_str HC.out, by assumption⟩
  rw [if_neg k3] at hlen ⊢
  have q3 := kx_noT k3
  clear k3
  by_cases k4 : k = 4
  · rw [if_pos k4] at hlen ⊢
    have q4 := kx_yesT k4
    have HX0 := Lib.hid (HX0.out (.inr (.inr k4)))
    have HX1 := Lib.hid (HX1.out k4)
    clear k4
    have hl : (E0.txt true).length + (2 + (E1.txt true).length) ≤ 1099511627776 := by have := hlen; simp only [Er.txt, List.length_append, List.length_cons, List.length_nil] at this; omega
    have n1 : ¬ 9223372036854775807 < (E0.txt true).length + 2 := by omega
    have n2 : ¬ 9223372036854775807 < (E0.txt true).length + 2 + (E1.txt true).length := by omega
    have HC := Lib.hid (show (⟨(E0.txt true).toArray⟩ : ByteArray) ++ ⟨#[59, 32]⟩ ++ ⟨(E1.txt true).toArray⟩ = ⟨((Er.pair E0 E1).txt true).toArray⟩ from ba_of_list (by simp [ByteArray.data_append, Er.txt]))
    clear hlen hl l1 l2 l3
    go_enter Tryz.func29, Tryz.ntmps29
    go_wp2_with fail
    go_region_held3 (fun w' => w'.cell? ⟨w.heap.size, 0, none⟩ = some (.int .i64 k) ∧ w'.cell? ⟨w.heap.size, 1, none⟩ = some (.int .i64 op) ∧ w'.cell? ⟨w.heap.size, 2, none⟩ = some (.int .i64 h) ∧ w'.cell? ⟨w.heap.size, 3, none⟩ = some (.int .i64 n) ∧ w'.cell? ⟨w.heap.size, 4, none⟩ = some (.string t) ∧ w'.cell? ⟨w.heap.size, 5, none⟩ = some (.slice p m cap) ∧ Below w.heap.size w w')
      (first
      | exact ⟨by simp, by simp, by simp, by simp, by simp, by simp, HD.out⟩
      | (go_split_ands; refine ⟨(hb.cell (p := ⟨w.heap.size, 0, none⟩) (cell_lt (by assumption))).trans (by assumption), (hb.cell (p := ⟨w.heap.size, 1, none⟩) (cell_lt (by assumption))).trans (by assumption), (hb.cell (p := ⟨w.heap.size, 2, none⟩) (cell_lt (by assumption))).trans (by assumption), (hb.cell (p := ⟨w.heap.size, 3, none⟩) (cell_lt (by assumption))).trans (by assumption), (hb.cell (p := ⟨w.heap.size, 4, none⟩) (cell_lt (by assumption))).trans (by assumption), (hb.cell (p := ⟨w.heap.size, 5, none⟩) (cell_lt (by assumption))).trans (by assumption), bnext (by assumption) hb⟩)
      | go_keep)
      (first | (go_at_call 32; with_reducible refine (HI0.out _ (by first | assumption | (go_split_ands; assumption))).mono ?_; rintro r w' ⟨x0, rfl, hx0, hb⟩) | (go_at_call 32; with_reducible refine (HI1.out _ (by first | assumption | (go_split_ands; assumption))).mono ?_; rintro r w' ⟨x1, rfl, hx1, hb⟩) | (go_at_call 29; with_reducible refine (HX0.out _ _ (by first | assumption | (go_split_ands; assumption)) hx0).mono ?_; rintro r w' ⟨rfl, hb⟩) | (go_at_call 29; with_reducible refine (HX1.out _ _ (by first | assumption | (go_split_ands; assumption)) hx1).mono ?_; rintro r w' ⟨rfl, hb⟩))
    all_goals
      go_split_ands
      go_wp2_with fail
      go_ret
      exact ⟨ret_str HC.out, by assumption⟩
  rw [if_neg k4] at hlen ⊢
  have q4 := kx_noT k4
  clear k4
  by_cases k5 : k = 5
  · rw [if_pos k5] at hlen ⊢
    have q5 := kx_yesT k5
    clear k5
    clear hlen l1 l2 l3
    go_enter Tryz.func29, Tryz.ntmps29
    go_wp2_with fail
    go_ret
    exact ⟨ret_str (ba_of_list (by simp [Er.txt])), HB.out⟩
  rw [if_neg k5] at hlen ⊢
  have q5 := kx_noT k5
  clear k5
  clear hlen l1 l2 l3
  have HC := Lib.hid (show Er.txt true (if k = 6 then .nF else if k = 7 then .nP else if k = 8 then .nQ else .nil) = [] by
    by_cases k6 : k = 6
    · rw [if_pos k6]; rfl
    rw [if_neg k6]
    by_cases k7 : k = 7
    · rw [if_pos k7]; rfl
    rw [if_neg k7]
    by_cases k8 : k = 8
    · rw [if_pos k8]; rfl
    rw [if_neg k8]; rfl)
  generalize (if k = 6 then Er.nF else if k = 7 then .nP else if k = 8 then .nQ else .nil) = EE at *
  go_enter Tryz.func29, Tryz.ntmps29
  go_wp2_with fail
  go_ret
  exact ⟨by rw [HC.out]; rfl, HB.out⟩
theorem text_nilT (w0 : World) (v : Value) (w : World) (hb : Below w0.heap.size w0 w) (hv : DV w0 .nil v) : Calls Tryz.prog 29 #[v, .bool true] w (TxPT w .nil) :=
  text_genT .nil trivial (by simp [Dt.toE, Er.txt]) w0 (fun h => absurd h (by decide)) (fun h => absurd h (by decide)) v w hb hv
theorem text_anyT (w0 : World) : ∀ (d : Dt), d.ok → (d.toE.txt true).length ≤ 1099511627776 → ∀ (v : Value) (w : World), Below w0.heap.size w0 w → DV w0 d v → Calls Tryz.prog 29 #[v, .bool true] w (TxPT w d) := by
  intro d
  induction d with
  | nil => exact fun _ _ v w hb hv => text_nilT w0 v w hb hv
  | mk k op h n t m a b iha ihb =>
    intro hok hlen
    refine text_genT _ hok hlen w0 (fun hq => ?_) (fun hq => ?_)
    · have hl0 := txt_kid0 (.mk k op h n t m a b) true hq
      rw [Dt.kid0_mk] at hl0 ⊢
      by_cases hm : 0 < m
      · rw [if_pos hm] at hl0 ⊢; exact iha hok.2.2.2.2.1 (Nat.le_trans hl0 hlen)
      · rw [if_neg hm]; exact text_nilT w0
    · have hl1 := txt_kid1 (.mk k op h n t m a b) true hq
      rw [Dt.kid1_mk] at hl1 ⊢
      by_cases hm : 1 < m
      · rw [if_pos hm] at hl1 ⊢; exact ihb hok.2.2.2.2.2 (Nat.le_trans hl1 hlen)
      · rw [if_neg hm]; exact text_nilT w0
end Go.Proofs.YtlnamkplbikcjaaGreatDoor
