/- The document's own calendar: Put; no condition but those that each row names. -/
import Derived.Test.YtknhjbfhkfngeaaDoorNRefB
namespace Go.Proofs.YtknhjbfhkfngeaaDoor
open Go.RowKit Cal

theorem remL_len (id : Int) (L : List Pr) : (remL id L).length ≤ L.length := by
  unfold remL
  split
  · exact Nat.le_refl _
  · rw [List.length_append, List.length_take, List.length_drop]; omega
theorem insP_len (x : Pr) (L : List Pr) : (insP x L).length = L.length + 1 := by
  have := goes_le (x := x) L
  unfold insP
  rw [List.length_append, List.length_take, List.length_cons, List.length_drop]; omega
/-- What the three appends leave. -/
theorem put_fin {w0 w w1 w2 w3 : World} {v : Value} {L : List Pr} {x : Pr} {k : Nat} {o : Obj} {p1 p2 p3 : Option Addr} {c1 c2 c3 : Nat} (hk : k = goes x L) (hb0 : Below w0.heap.size w0 w)
    (hg1 : w.grownBy w1 (Value.slice none 0 0).ownBlock) (ha1 : ∀ g, (Value.slice p1 k c1).ownBlock = some g → (Value.slice none 0 0).ownBlock = some g ∨ w.heap.size ≤ g)
    (hg2 : (w1.alloc o).grownBy w2 (Value.slice p1 k c1).ownBlock) (ha2 : ∀ g, (Value.slice p2 (k + 1) c2).ownBlock = some g → (Value.slice p1 k c1).ownBlock = some g ∨ w1.heap.size + 1 ≤ g)
    (ho3 : w3.ownsRow w.heap.size RT 2 (.slice p3 (k + 1 + (L.length - k)) c3) (k + 1 + (L.length - k)) (prL (L.take k) ++ (.int .i64 x.1 :: .int .i64 x.2 :: prL (L.drop k))))
    (hg3 : w2.grownBy w3 (Value.slice p2 (k + 1) c2).ownBlock) (ha3 : ∀ g, (Value.slice p3 (k + 1 + (L.length - k)) c3).ownBlock = some g → (Value.slice p2 (k + 1) c2).ownBlock = some g ∨ w2.heap.size ≤ g) :
    RPost w0 v (insP x L) 0 (.returned (.tuple #[.slice p3 (k + 1 + (L.length - k)) c3, .int .i64 0])) w3 := by
  have hkl := goes_le (x := x) L
  rw [← hk] at hkl
  have hb1 : Below w.heap.size w w1 := (Below.refl _ _).grown hg1 (Nat.le_refl _) (fun k e => by simp [Value.ownBlock] at e)
  have hf1 : ∀ g, (Value.slice p1 k c1).ownBlock = some g → w.heap.size ≤ g := fun g e => by rcases ha1 g e with h | h; simp [Value.ownBlock] at h; exact h
  have hba : Below w.heap.size w (w1.alloc o) := hb1.alloc hb1.size o
  have hb2 : Below w.heap.size w w2 := hba.grown hg2 hba.size (fun k e => hf1 k e)
  have hf2 : ∀ g, (Value.slice p2 (k + 1) c2).ownBlock = some g → w.heap.size ≤ g := fun g e => by
    rcases ha2 g e with h | h
    · exact hf1 g h
    · have := hb1.size; omega
  have hb3 : Below w.heap.size w w3 := hb2.grown hg3 hb2.size (fun k e => hf2 k e)
  refine ⟨_, rfl, ?_, bnext hb0 hb3, fun g e => .inr ?_⟩
  · have hlen : (insP x L).length = k + 1 + (L.length - k) := by rw [insP_len]; omega
    have hel : prL (L.take k) ++ (.int .i64 x.1 :: .int .i64 x.2 :: prL (L.drop k)) = prL (insP x L) := by unfold insP; rw [← hk, prL_append]; rfl
    rw [hel] at ho3
    unfold Its
    rw [hlen]
    exact own_base2 ho3 (Nat.zero_le _)
  · have h0 := hb0.size
    rcases ha3 g e with h | h
    · have := hf2 g h; omega
    · have := hb2.size; omega
set_option maxHeartbeats 400000 in
theorem rput_no (w : World) (v : Value) (L : List Pr) (h : Its w v L) (id a : Int) (hn : id < 0 ∨ a < 0) :
    Calls Tryd.prog 6 #[v, .int .i64 id, .int .i64 a] w (RPost w v L 1) := by
  have H := Lib.hid h
  clear h
  by_cases h1 : id < 0
  · clear hn
    go_enter Tryd.func6, Tryd.ntmps6
    go_wp2_with fail
    go_ret2
    exact ⟨v, rfl, H.out, Below.refl _ _, fun g e => .inl e⟩
  · have h2 : a < 0 := by omega
    clear hn
    go_enter Tryd.func6, Tryd.ntmps6
    go_wp2_with fail
    go_ret2
    exact ⟨v, rfl, H.out, Below.refl _ _, fun g e => .inl e⟩
set_option maxHeartbeats 4000000 in
set_option maxRecDepth 100000 in
theorem rput_yes (w : World) (v : Value) (L : List Pr) (h : Its w v L) (h4 : L.length ≤ 4096) (id a : Int) (h0 : 0 ≤ id) (ha : 0 ≤ a) :
    Calls Tryd.prog 6 #[v, .int .i64 id, .int .i64 a] w (RPost w v (putL id a L) 0) := by
  have HD := Lib.hid (rdrop_any w v L h h4 id)
  have hM := remL_len id L
  unfold putL
  generalize remL id L = M at *
  have hi0 : ¬ id < 0 := by omega
  have ha0 : ¬ a < 0 := by omega
  clear h
  go_enter Tryd.func6, Tryd.ntmps6
  go_wp2_with fail
  refine HD.out.mono ?_
  rintro e w1 ⟨v1, rfl, h1, hb1, _⟩
  have H := Lib.hid h1
  have HB := Lib.hid hb1
  have HGL := Lib.hid (goes_le (x := (id, a)) M)
  have HAH := Lib.hid (fun j (hj : j < goes (id, a) M) (h : j < M.length) => goes_ahead hj h)
  have HST := Lib.hid (fun (h : goes (id, a) M < M.length) => goes_stop h)
  obtain ⟨p1, cap, rfl, hlc⟩ := own_small h1
  have HC := Lib.hid (show ∀ j (hj : j < M.length), ∃ g, p1 = some ⟨g, 0, none⟩ ∧ w1.cell? ⟨g, j * 2, none⟩ = some (.int .i64 M[j].1) ∧ w1.cell? ⟨g, j * 2 + 1, none⟩ = some (.int .i64 M[j].2) from fun j hj => by
    obtain ⟨g, cap', e, _, _⟩ := own_block2 h1 (by omega)
    cases e
    exact ⟨g, rfl, Its.cells h1 j hj⟩)
  clear h1 hb1
  obtain ⟨K, hK⟩ : ∃ K, K = goes (id, a) M := ⟨_, rfl⟩
  have HK := Lib.hid hK
  rw [← hK] at HGL HAH HST
  clear hK
  go_upto_block 0 with fail
  go_cut [8] (fun av wx => wx = w1 ∧ av = .int .i64 (K : Nat))
  case first =>
    go_wp2_with fail
    go_loop [8] (fun iv => ∃ k : Nat, iv = .int .i64 k ∧ k ≤ K) (fun iv => M.length - (intOf iv).toNat)
    case atStart => exact ⟨0, rfl, Nat.zero_le _⟩
    case round =>
      obtain ⟨k, rfl, hk⟩ := hrel
      have hkm := HGL.out
      by_cases hlt : k < M.length
      · have hlt' : (k : Int) < (M.length : Int) := by omega
        obtain ⟨g, rfl, c0, c1⟩ := HC.out k hlt
        by_cases hkk : k < K
        · have hl := HAH.out k hkk hlt
          unfold Lt2 at hl
          generalize M[k].1 = xi at *
          generalize M[k].2 = xk at *
          simp only at hl
          by_cases hx : xk < a
          · clear hl
            go_wp2_with fail
            go_round
            case rel => exact ⟨k + 1, by go_num, by omega⟩
            case measure => simp [intOf]; omega
          · obtain ⟨e, h2⟩ := hl.resolve_left hx
            subst e
            clear hl hx
            go_wp2_with fail
            go_round
            case rel => exact ⟨k + 1, by go_num, by omega⟩
            case measure => simp [intOf]; omega
        · obtain rfl : k = K := by omega
          have hl := HST.out hlt
          unfold Lt2 at hl
          generalize M[k].1 = xi at *
          generalize M[k].2 = xk at *
          simp only at hl
          have hx : ¬ xk < a := fun h => hl (.inl h)
          have hx1 : decide (xk < a) = false := decide_eq_false hx
          by_cases e : xk = a
          · subst e
            have hx2 : ¬ xi < id := fun h => hl (.inr ⟨rfl, h⟩)
            have hx3 : decide (xi < id) = false := decide_eq_false hx2
            clear hl hx hkk
            go_wp2_with fail
            go_meet
            exact ⟨rfl, rfl⟩
          · have hx2 : (xk == a) = false := by rw [beq_eq_false_iff_ne]; exact e
            clear hl hx hkk e
            go_wp2_with fail
            go_meet
            exact ⟨rfl, rfl⟩
      · obtain rfl : k = K := by omega
        have hg3 : decide (k < M.length) = false := decide_eq_false hlt
        clear hlt
        go_wp2_with fail
        go_meet
        exact ⟨rfl, rfl⟩
  case rest =>
    obtain ⟨rfl, rfl⟩ := hcut
    have hkl : K ≤ M.length := HGL.out
    clear HC HAH HST
    rcases H.out.2 with ⟨hv, hz⟩ | ⟨g0, cap', cur, hv, _⟩
    · injection hv with e1 e2 e3
      have hM0 : M = [] := List.eq_nil_of_length_eq_zero hz
      have hK0 : K = 0 := by omega
      clear e2 hz H hkl HGL
      subst e1 e3 hM0 hK0
      go_wp2_with (at_builtin; refine wpList_append_its rfl _ _ rfl wc.heap.size (.slice none 0 0) 0 [] rfl (World.ownsRow_nil _ _ _ _) _ 0 [] rfl (src_none _ _ _) (by simp) (by omega) (Nat.le_refl _) ?_)
      intro p1 c1 w1 ho1 hg1 ha1
      have hb1 : Below wc.heap.size wc w1 := (Below.refl _ _).grown hg1 (Nat.le_refl _) (fun k e => by simp [Value.ownBlock] at e)
      have HO1 := Lib.hid ho1
      have HB1 := Lib.hid hb1
      have HG1 := Lib.hid hg1
      have HA1 := Lib.hid ha1
      clear ho1 hg1 ha1 hb1
      go_wp2_with (at_builtin; refine wpList_append_its rfl _ _ rfl wc.heap.size (.slice p1 0 c1) 0 [] rfl (HO1.out.kept (World.grownBy_alloc _ _ none) (Classical.em _)) _ 1 [.int .i64 id, .int .i64 a] rfl (src_pair w1 (id, a) _) (by intro u hu; simp at hu; rcases hu with rfl | rfl <;> rfl) (by omega) (by have := HB1.out.size; simp; omega) ?_)
      intro p2 c2 w2 ho2 hg2 ha2
      have hb2 : Below wc.heap.size wc w2 := (HB1.out.alloc HB1.out.size _).grown hg2 (by have := HB1.out.size; simp; omega) (fun g e => by
        rcases HA1.out g e with h | h
        · simp [Value.ownBlock] at h
        · exact h)
      have HO2 := Lib.hid ho2
      have HB2 := Lib.hid hb2
      have HG2 := Lib.hid hg2
      have HA2 := Lib.hid ha2
      clear ho2 hg2 ha2 hb2
      go_wp2_with (at_builtin; refine wpList_append_its rfl _ _ rfl wc.heap.size (.slice p2 1 c2) 1 [.int .i64 id, .int .i64 a] rfl HO2.out _ 0 [] rfl (src_none _ _ _) (by simp) (by omega) HB2.out.size ?_)
      all_goals
        intro p3 c3 w3 ho3 hg3 ha3
        have HE := Lib.hid (put_fin (L := []) (k := 0) (x := (id, a)) (v := v) rfl HB.out HG1.out HA1.out HG2.out HA2.out ho3 hg3 ha3)
        clear ho3 hg3 ha3
        go_wp2_with fail
        go_ret2
        exact HE.out
    · injection hv with e1 e2 e3
      clear e2
      subst e1 e3
      have z1 : (K : Int) ≤ (cap : Int) := by omega
      have z2 : (K : Int) ≤ (M.length : Int) := by omega
      have z5 : (M.length : Int) ≤ (cap : Int) := by omega
      go_wp2_with (at_builtin; refine wpList_append_its rfl _ _ rfl wc.heap.size (.slice none 0 0) 0 [] rfl (World.ownsRow_nil _ _ _ _) _ K (prL (M.take K)) rfl (src_head H.out (Below.refl _ _) K hkl _) (prL_one _) (by omega) (Nat.le_refl _) ?_)
      intro p1 c1 w1 ho1 hg1 ha1
      have hb1 : Below wc.heap.size wc w1 := (Below.refl _ _).grown hg1 (Nat.le_refl _) (fun k e => by simp [Value.ownBlock] at e)
      have HO1 := Lib.hid (show w1.ownsRow wc.heap.size RT 2 (.slice p1 K c1) K (prL (M.take K)) from by
        try rw [Nat.zero_add] at ho1
        exact ho1)
      have HB1 := Lib.hid hb1
      have HG1 := Lib.hid hg1
      have HA1 := Lib.hid (show ∀ g, (Value.slice p1 K c1).ownBlock = some g → (Value.slice none 0 0).ownBlock = some g ∨ wc.heap.size ≤ g from by
        try rw [Nat.zero_add] at ha1
        exact ha1)
      clear ho1 hg1 ha1 hb1
      go_wp2_with (at_builtin; refine wpList_append_its rfl _ _ rfl wc.heap.size (.slice p1 K c1) K (prL (M.take K)) rfl (HO1.out.kept (World.grownBy_alloc _ _ none) (Classical.em _)) _ 1 [.int .i64 id, .int .i64 a] rfl (src_pair w1 (id, a) _) (by intro u hu; simp at hu; rcases hu with rfl | rfl <;> rfl) (by omega) (by have := HB1.out.size; simp; omega) ?_)
      intro p2 c2 w2 ho2 hg2 ha2
      have hb2 : Below wc.heap.size wc w2 := (HB1.out.alloc HB1.out.size _).grown hg2 (by have := HB1.out.size; simp; omega) (fun g e => by
        rcases HA1.out g e with h | h
        · simp [Value.ownBlock] at h
        · exact h)
      have HO2 := Lib.hid ho2
      have HB2 := Lib.hid hb2
      have HG2 := Lib.hid hg2
      have HA2 := Lib.hid ha2
      clear ho2 hg2 ha2 hb2
      go_wp2_with (at_builtin; refine wpList_append_its rfl _ _ rfl wc.heap.size (.slice p2 (K + 1) c2) (K + 1) (prL (M.take K) ++ [.int .i64 id, .int .i64 a]) rfl HO2.out _ (M.length - K) (prL (M.drop K)) rfl (src_tail_if H.out hlc HB2.out K hkl) (prL_one _) (by omega) HB2.out.size ?_)
      all_goals
        intro p3 c3 w3 ho3 hg3 ha3
        try rw [List.append_assoc] at ho3
        have HE := Lib.hid (put_fin (x := (id, a)) (v := v) HK.out HB.out HG1.out HA1.out HG2.out HA2.out ho3 hg3 ha3)
        clear ho3 hg3 ha3
        go_wp2_with fail
        go_ret2
        exact HE.out
end Go.Proofs.YtknhjbfhkfngeaaDoor
