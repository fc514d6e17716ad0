/- The law's own do, whatever the act: both queues go on alike; no condition but those that the row names. -/
import Derived.Test.YtdpchojfgcjbeaaFDoB
import Derived.Test.YtdpchojfgcjbeaaFDoC
import Derived.Test.YtdpchojfgcjbeaaFRefC
namespace Go.Proofs.Ytdpchojfgcjbeaa
open Go.RowKit Go.Shelf

theorem way_of (kind : Int) : way kind = 0 ∨ way kind = 1 ∨ way kind = 2 ∨ way kind = 3 ∨ way kind = 4 ∨ way kind = 5 ∨ way kind = 6 ∨ way kind = 7 := by
  obtain ⟨h0, h1⟩ := way_in kind
  have h2 : 0 ≤ way kind := by unfold way; exact Int.tmod_nonneg _ (by omega)
  have h3 : way kind < 8 := by unfold way; exact Int.tmod_lt_of_pos _ (by omega)
  omega
theorem erase_map {α β : Type} (f : α → β) : ∀ (l : List α) (i : Nat), (l.eraseIdx i).map f = (l.map f).eraseIdx i
  | [], _ => rfl
  | _ :: _, 0 => rfl
  | a :: l, i + 1 => by simp [erase_map f l i]
theorem ent_map (L : List (Int × Int)) : (ent_I L).map (·.1) = ints (L.map (·.1)) := by simp [ent_I, ints]
theorem ent_push (A : Qu) (L : List (Int × Int)) (hl : A.l = ent_I L) (x : Int) : (A.push (.int .i64 x)).l = ent_I (L ++ [(x, A.last + 1)]) := by simp [Qu.push, hl, ent_I]
theorem ent_put (A : Qu) (L : List (Int × Int)) (hl : A.l = ent_I L) (i : Nat) (x : Int) : (A.put i (.int .i64 x)).l = ent_I (L.set i (x, A.last + 1)) := by simp [Qu.put, hl, ent_I, List.map_set]
theorem ent_drop (A : Qu) (L : List (Int × Int)) (hl : A.l = ent_I L) (i : Nat) : (A.drop i).l = ent_I (L.eraseIdx i) := by simp [Qu.drop, hl, ent_I, erase_map]
theorem ent_at {A : Qu} {L : List (Int × Int)} (hl : A.l = ent_I L) {i : Nat} (hi : i < A.l.length) : ∃ (h : i < (L.map (·.1)).length), A.l[i].1 = .int .i64 (L.map (·.1))[i] := by
  have hj : i < L.length := by rw [hl, ent_len_I] at hi; exact hi
  refine ⟨by simpa using hj, ?_⟩
  have e : A.l[i]? = (ent_I L)[i]? := by rw [hl]
  rw [List.getElem?_eq_getElem hi] at e
  simp [ent_I, List.getElem?_eq_getElem hj] at e
  rw [e]
  simp
theorem filter_map1 (L : List (Int × Int)) (f : Int → Bool) : (L.filter fun p => f p.1).map (·.1) = (L.map (·.1)).filter f := by
  rw [List.filter_map]; rfl
theorem good_sub {A : Qu} (h : A.Good 1) {l : List (Value × Int)} (hs : l.Sublist A.l) : Qu.Good 1 { A with l := l } :=
  ⟨h.l0, h.l1, by have := hs.length_le; have := h.len; show (l.length : Int) ≤ A.limit; omega, fun p hp => h.wd p (hs.subset hp), h.z0, fun p hp => h.nums p (hs.subset hp), h.nd.sublist (hs.map _)⟩

theorem do_any (B : Nat) (w : World) (A : Qu) (hA : A.Good 1) (L : List (Int × Int)) (hl : A.l = ent_I L) (b : Nat) (s v : Value) (hq : PQ QT_I ET_I 1 B w A b s) (hB : B ≤ w.heap.size) (hn : Nums w v (L.map (·.1))) (hlast : A.last + 1 ≤ 9223372036854775807) (kind i x : Int) :
    ∃ A' L', A'.Good 1 ∧ A'.limit = A.limit ∧ A'.last ≤ A.last + 1 ∧ A'.l = ent_I L' ∧
      Calls Try.prog 12 #[.pointer (some ⟨b, 0, none⟩), .agg #[.int .i64 A.limit, v], .agg #[.int .i64 kind, .int .i64 i, .int .i64 x]] w (DoPost B w A.limit A' b s (L'.map (·.1))) := by
  have n4 := hA.n4
  have hlen : A.l.length = (L.map (·.1)).length := by rw [hl, ent_len_I, List.length_map]
  have h4 : (L.map (·.1)).length ≤ 4096 := by rw [← hlen]; exact n4
  have hno : ∀ j : Int, ¬ (0 ≤ j ∧ j < A.l.length) → hasB A j = false ∧ (j < 0 ∨ ((L.map (·.1)).length : Int) ≤ j) := fun j hj => by
    refine ⟨by rw [Bool.eq_false_iff]; intro e; exact hj (hasB_iff.1 e), ?_⟩
    rw [← hlen]; omega
  have hstay : A.Good 1 ∧ A.limit = A.limit ∧ A.last ≤ A.last + 1 ∧ A.l = ent_I L := ⟨hA, rfl, by omega, hl⟩
  by_cases hw : way kind = 0 ∨ way kind = 1 ∨ way kind = 2
  · by_cases hr : (A.l.length : Int) < A.limit
    · refine ⟨A.push (.int .i64 x), L ++ [(x, A.last + 1)], good_push_I hA x hr, rfl, Int.le_refl _, ent_push A L hl x, ?_⟩
      rw [List.map_append]
      exact do_push B w A _ b s v _ _ kind i x 0 hq hB hn hw (fun W h => rpush_yes W A.limit v _ h x (by rw [← hlen]; exact hr) hA.l1)
        (fun W h hBW => (push_yes_I B A hA W b s h x hlast hr hBW).mono fun e w' he => by obtain ⟨rfl, s', h1, h2, _⟩ := he; exact ⟨rfl, s', h1, h2⟩)
    · exact ⟨A, L, hstay.1, hstay.2.1, hstay.2.2.1, hstay.2.2.2, do_push B w A A b s v _ _ kind i x 40 hq hB hn hw (fun W h => rpush_no W A.limit v _ h x (by rw [← hlen]; omega))
        (fun W h _ => (push_no_I 1 B A hA W b s h x (by omega)).mono fun e w' he => by obtain ⟨rfl, rfl⟩ := he; exact ⟨rfl, Turn.stay h⟩)⟩
  · by_cases h3 : way kind = 3
    · by_cases h0 : 0 < A.l.length
      · obtain ⟨h0', hv⟩ := ent_at hl h0
        refine ⟨A.drop 0, L.eraseIdx 0, hA.drop 0, rfl, by show A.last ≤ A.last + 1; omega, ent_drop A L hl 0, ?_⟩
        rw [erase_map]
        exact do_pop B w A _ b s v _ _ kind i x 0 _ hq hB hn h3 (fun W h => rdrop_yes W A.limit v _ h 0 h0' h4 _ rfl)
          (fun W h _ => (pop_of_I W _ _ _ _ ((drop_yes_I B A hA W b s h 0 h0 _ hv).mono fun e w' he => by obtain ⟨rfl, s', h1, h2, _⟩ := he; exact ⟨rfl, (⟨s', h1, h2⟩ : Turn B (A.drop 0) b s W w')⟩)).mono fun e w' he => he)
      · obtain ⟨e1, e2⟩ := hno 0 (by omega)
        exact ⟨A, L, hstay.1, hstay.2.1, hstay.2.2.1, hstay.2.2.2, do_pop B w A A b s v _ _ kind i x 50 0 hq hB hn h3 (fun W h => rdrop_no W A.limit v _ h 0 e2)
          (fun W h _ => (pop_of_I W _ _ _ _ ((drop_no_I 1 B A W b s h 0 e1).mono fun e w' he => by obtain ⟨rfl, rfl⟩ := he; exact ⟨rfl, (Turn.stay h : Turn B A b s W W)⟩)).mono fun e w' he => he)⟩
    · by_cases h4w : way kind = 4
      · by_cases h0 : 0 ≤ i ∧ i < A.l.length
        · obtain ⟨j, rfl⟩ := Int.eq_ofNat_of_zero_le h0.1
          have hj : j < A.l.length := by omega
          refine ⟨A.put j (.int .i64 x), L.set j (x, A.last + 1), good_put hA x, rfl, Int.le_refl _, ent_put A L hl j x, ?_⟩
          rw [List.map_set]
          exact do_put B w A _ b s v _ _ kind j x 0 hq hB hn h4w (fun W h => rput_yes W A.limit v _ h j (by rw [← hlen]; exact hj) h4 x)
            (fun W h _ => (put_yes B A hA W b s h j hj x hlast).mono fun e w' he => by obtain ⟨rfl, h1, h2⟩ := he; exact ⟨rfl, s, h1, h2⟩)
        · obtain ⟨e1, e2⟩ := hno i h0
          exact ⟨A, L, hstay.1, hstay.2.1, hstay.2.2.1, hstay.2.2.2, do_put B w A A b s v _ _ kind i x 50 hq hB hn h4w (fun W h => rput_no W A.limit v _ h i x e2)
            (fun W h _ => (put_no 1 B A W b s h i e1 x).mono fun e w' he => by obtain ⟨rfl, rfl⟩ := he; exact ⟨rfl, Turn.stay h⟩)⟩
      · by_cases h5 : way kind = 5
        · by_cases h0 : 0 ≤ i ∧ i < A.l.length
          · obtain ⟨j, rfl⟩ := Int.eq_ofNat_of_zero_le h0.1
            have hj : j < A.l.length := by omega
            obtain ⟨h0', hv⟩ := ent_at hl hj
            refine ⟨A.drop j, L.eraseIdx j, hA.drop j, rfl, by show A.last ≤ A.last + 1; omega, ent_drop A L hl j, ?_⟩
            rw [erase_map]
            exact do_drop B w A _ b s v _ _ kind j x 0 _ hq hB hn h5 (fun W h => rdrop_yes W A.limit v _ h j h0' h4 _ rfl)
              (fun W h _ => (drop_yes_I B A hA W b s h j hj _ hv).mono fun e w' he => by obtain ⟨rfl, s', h1, h2, _⟩ := he; exact ⟨rfl, s', h1, h2⟩)
          · obtain ⟨e1, e2⟩ := hno i h0
            exact ⟨A, L, hstay.1, hstay.2.1, hstay.2.2.1, hstay.2.2.2, do_drop B w A A b s v _ _ kind i x 50 0 hq hB hn h5 (fun W h => rdrop_no W A.limit v _ h i e2)
              (fun W h _ => (drop_no_I 1 B A W b s h i e1).mono fun e w' he => by obtain ⟨rfl, rfl⟩ := he; exact ⟨rfl, Turn.stay h⟩)⟩
        · by_cases h6 : way kind = 6
          · refine ⟨{ A with l := ent_I (L.filter fun p => dv x p.1) }, L.filter fun p => dv x p.1, good_sub hA (by rw [hl]; exact (List.filter_sublist).map _), rfl, by show A.last ≤ A.last + 1; omega, rfl, ?_⟩
            rw [filter_map1]
            have e1 : ((L.filter fun p => dv x p.1).length : Int) = ((L.map (·.1)).filter (dv x)).length := by rw [← filter_map1, List.length_map]
            refine do_keep B w A _ b s v _ _ kind i x (((L.map (·.1)).length : Int) - ((L.map (·.1)).filter (dv x)).length) hq hn h6 (fun W h => rkeep_any W A.limit v _ h h4 x) (fun W q h hb => ?_)
            have := keep_do B A hA (by omega) L hl W b s h q kind i x hb
            rw [e1] at this
            simpa using this
          · have h7 : way kind = 7 := by have := way_of kind; omega
            have hat : ∃ (y : Int) (t : Bool), (∀ W, Nums W v (L.map (·.1)) → Calls Try.prog 47 #[.agg #[.int .i64 A.limit, v], .int .i64 i] W fun e w' => e = .returned (.tuple #[.int .i64 y, .bool t]) ∧ Below W.heap.size W w') ∧
                (∀ W, PQ QT_I ET_I 1 B W A b s → Calls Try.prog 16 #[.pointer (some ⟨b, 0, none⟩), .int .i64 i] W fun e w' => e = .returned (.tuple #[.int .i64 y, .bool t]) ∧ W = w') := by
              by_cases h0 : 0 ≤ i ∧ i < A.l.length
              · obtain ⟨j, rfl⟩ := Int.eq_ofNat_of_zero_le h0.1
                have hj : j < A.l.length := by omega
                obtain ⟨h0', hv⟩ := ent_at hl hj
                exact ⟨_, true, fun W h => rat_yes W A.limit v _ h j h0' _ rfl, fun W h => at_yes_I B A hA W b s h j hj _ hv⟩
              · obtain ⟨e1, e2⟩ := hno i h0
                exact ⟨0, false, fun W h => rat_no W A.limit v _ h i e2, fun W h => at_no_I 1 B A W b s h i e1⟩
            obtain ⟨y, t, hr, hp⟩ := hat
            cases hx : (x.tmod 5 == 0) with
            | false => exact ⟨A, L, hstay.1, hstay.2.1, hstay.2.2.1, hstay.2.2.2, do_at B w A b s v _ kind i x y t hq hn h7 hx hr hp⟩
            | true => exact ⟨A.clear, [], good_clear hA, rfl, by show A.last ≤ A.last + 1; omega, rfl, do_clear B w A b s v _ kind i x y t hq hn hlen h7 hx hr hp⟩
end Go.Proofs.Ytdpchojfgcjbeaa
