/- A queue of jobs told by a function of the place: New, Push, Head, Put, Pop, List; no condition but those that each row names. -/
import Derived.Test.YtpfhebfkhailfaaDoorUQPut
import Derived.Test.YtpfhebfkhailfaaDoorUQList
namespace Go.Proofs.YtpfhebfkhailfaaDoor
open Go.RowKit Go.Shelf Tsk

abbrev jW (x : Jb) : Value := .agg #[.int .i64 x.l, .int .i64 x.c, .int .i64 x.a, .int .i64 x.d]
theorem fL_len (f : Nat → Jb) (n : Nat) : (fL f n).length = n := by simp
theorem fL_succ (f : Nat → Jb) (n : Nat) : fL f (n + 1) = fL f n ++ [f n] := by simp [fL, List.range_succ]
theorem fL_get {f : Nat → Jb} {n i : Nat} (h : i < n) : (fL f n)[i]? = some (f i) := by simp [h]
theorem fL_put (f : Nat → Jb) (n : Nat) (x : Jb) : (fL f n).set 0 x = fL (fun j => if j = 0 then x else f j) n := by
  apply List.ext_getElem?
  intro i
  by_cases hi : i < n
  · rw [fL_get hi]
    by_cases h0 : i = 0
    · subst h0; rw [List.getElem?_set_self (by rw [fL_len]; exact hi), if_pos rfl]
    · rw [List.getElem?_set_ne (fun e => h0 e.symm), fL_get hi, if_neg h0]
  · rw [List.getElem?_eq_none (by rw [List.length_set, fL_len]; omega), List.getElem?_eq_none (by rw [fL_len]; omega)]
theorem fL_tail (f : Nat → Jb) (n : Nat) : (fL f n).eraseIdx 0 = fL (fun i => f (i + 1)) (n - 1) := by
  rw [List.eraseIdx_zero]
  apply List.ext_getElem?
  intro i
  rw [List.getElem?_tail]
  by_cases hi : i + 1 < n
  · rw [fL_get hi, fL_get (by omega)]
  · rw [List.getElem?_eq_none (by rw [fL_len]; omega), List.getElem?_eq_none (by rw [fL_len]; omega)]

/-- A queue of n jobs: its blocks are newer than the world w. -/
structure QJ (w : World) (b : Nat) (s : Value) (n : Nat) (f : Nat → Jb) (z : Int) (wr : World) : Prop where
  ex : ∃ A : Qu, PQ QT_J ET_J 4 w.heap.size wr A b s ∧ A.Good 4 ∧ A.limit = 8 ∧ A.last = z ∧ A.l.map (·.1) = (fL f n).map jW
  below : Below w.heap.size w wr
theorem QJ.turn {w wr w' : World} {b n : Nat} {s : Value} {f : Nat → Jb} {z : Int} (h : QJ w b s n f z wr) (hb : Below wr.heap.size wr w') : QJ w b s n f z w' := by
  obtain ⟨⟨A, h1, h2⟩, h3⟩ := h
  exact ⟨⟨A, h1.below hb, h2⟩, bnext h3 hb⟩
theorem QJ.lt {w wr : World} {b n : Nat} {s : Value} {f : Nat → Jb} {z : Int} (h : QJ w b s n f z wr) : b < wr.heap.size ∧ ∀ g, s.ownBlock = some g → g < wr.heap.size := by
  obtain ⟨⟨A, h1, h2⟩, h3⟩ := h
  exact ⟨h1.lt, fun g e => (h1.own.lt g e).2⟩
theorem QJ.holds {w wr : World} {b n : Nat} {s : Value} {f : Nat → Jb} {z : Int} (h : QJ w b s n f z wr) : Holds_J wr (.pointer (some ⟨b, 0, none⟩)) (fL f n) := by
  obtain ⟨⟨A, h1, h2, _, _, h4⟩, h3⟩ := h
  exact .inr ⟨_, b, s, A, rfl, h1, h2, h4⟩
theorem QJ.len {A : Qu} {f : Nat → Jb} {n : Nat} (h : A.l.map (·.1) = (fL f n).map jW) : A.l.length = n := by
  have := congrArg List.length h; simpa using this
theorem QJ.n8 {w wr : World} {b n : Nat} {s : Value} {f : Nat → Jb} {z : Int} (h : QJ w b s n f z wr) : n ≤ 8 := by
  obtain ⟨⟨A, h1, h2, h5, _, h4⟩, h3⟩ := h
  have := QJ.len h4; have := h2.len; omega
theorem below_of_keeps {w wr w' : World} {S : Nat → Prop} (hb : Below w.heap.size w wr) (hk : Keeps S wr w') (hS : ∀ x, S x → w.heap.size ≤ x) : Below w.heap.size w w' :=
  hb.trans (hk.below hb.size hS)
theorem qnew (w : World) : Calls Tryd.prog 53 #[.int .i64 8] w fun e w' => e = .returned (.tuple #[.pointer (some ⟨w.heap.size, 0, none⟩), .nilIface]) ∧ QJ w w.heap.size (.slice none 0 0) 0 (fun _ => ⟨0, 0, 0, 0⟩) 0 w' :=
  (new_yes_J w 8 (by omega) (by omega)).mono fun e w' ⟨he, hw⟩ => ⟨he, by
    subst hw
    exact ⟨⟨⟨8, [], 0⟩, PQ.new (Nat.le_refl _) 8, good_new (by omega) (by omega), rfl, rfl, rfl⟩, (Below.refl _ _).alloc (Nat.le_refl _) _⟩⟩
theorem QJ.congr {w wr : World} {b n : Nat} {s : Value} {f g : Nat → Jb} {z : Int} (h : QJ w b s n f z wr) (e : ∀ i, i < n → f i = g i) : QJ w b s n g z wr := by
  obtain ⟨⟨A, h1, h2, h5, h6, h4⟩, h3⟩ := h
  refine ⟨⟨A, h1, h2, h5, h6, h4.trans ?_⟩, h3⟩
  congr 1
  simp only [fL]
  exact List.map_congr_left fun i hi => e i (by simpa using hi)
theorem qpush (w wr : World) (b n : Nat) (s : Value) (f : Nat → Jb) (z : Int) (h : QJ w b s n f z wr) (x : Jb) (hn : n < 8) (hz : z < 1000) :
    Calls Tryd.prog 48 #[.pointer (some ⟨b, 0, none⟩), jW x] wr fun e w' => e = .returned .nilIface ∧ ∃ s', QJ w b s' (n + 1) (upd f n x) (z + 1) w' := by
  obtain ⟨⟨A, h1, h2, h5, h6, h4⟩, h3⟩ := h
  have hl := QJ.len h4
  refine (push_yes_J w.heap.size A h2 wr b s h1 x (by omega) (by omega) h3.size).mono ?_
  rintro e w' ⟨rfl, s', hp, hk, _⟩
  refine ⟨rfl, s', ⟨_, hp, good_push_J h2 x (by omega), h5, by rw [← h6]; rfl, ?_⟩, below_of_keeps h3 hk ?_⟩
  · rw [fL_succ, upd_same, List.map_append, show fL (upd f n x) n = fL f n from List.map_congr_left fun i hi => upd_ne x (by simp at hi; omega), ← h4]
    simp [Qu.push]
  · rintro y (rfl | e)
    · exact h1.hb
    · exact (h1.own.lt y e).1
theorem qpush_full (w wr : World) (b n : Nat) (s : Value) (f : Nat → Jb) (z : Int) (h : QJ w b s n f z wr) (x : Jb) (h8 : 8 ≤ n) :
    Calls Tryd.prog 48 #[.pointer (some ⟨b, 0, none⟩), jW x] wr fun e w' => e = .returned (errV 40) ∧ Below wr.heap.size wr w' := by
  obtain ⟨⟨A, h1, h2, h5, h6, h4⟩, h3⟩ := h
  have hl := QJ.len h4
  exact push_no_J 4 _ A h2 wr b s h1 x (by omega)
set_option maxHeartbeats 400000 in
theorem qhead (w wr : World) (b n : Nat) (s : Value) (f : Nat → Jb) (z : Int) (h : QJ w b s n f z wr) (hn : 0 < n) :
    Calls Tryd.prog 57 #[.pointer (some ⟨b, 0, none⟩)] wr fun e w' => e = .returned (.tuple #[jW (f 0), .bool true]) ∧ Below wr.heap.size wr w' := by
  have hb0 : Below wr.heap.size wr (wr.alloc (.cells #[.int .i64 0, .int .i64 0, .int .i64 0, .int .i64 0] JT)) := (Below.refl _ wr).alloc (Nat.le_refl _) _
  have HC := Lib.hid (at_holds_yes_J _ _ _ (h.turn hb0).holds 0 (f 0) (fL_get hn))
  have HB := Lib.hid hb0
  have H0 := Lib.hid (has_new wr (.cells #[.int .i64 0, .int .i64 0, .int .i64 0, .int .i64 0] JT) _ rfl)
  generalize f 0 = x at *
  clear h hb0
  go_enter Tryd.func57, Tryd.ntmps57
  go_wp2_with fail
  refine HC.out.mono ?_
  rintro e w1 ⟨rfl, hb1⟩
  have hj : HasJ0 w1 wr.heap.size ⟨0, 0, 0, 0⟩ := (hb1.block _ (by simp)).trans H0.out
  obtain ⟨y0, y1, y2, y3⟩ := hj.cells
  have yf := fun j => has_free hj j
  have HB1 := Lib.hid (bnext HB.out hb1)
  clear hb1 hj
  go_wp2_with fail
  refine bodyPost_ret (v := .tuple #[jW x, .bool true]) (by simp [results, Tryd.results57, go_sem, y0, y1, y2, y3]) rfl ⟨rfl, ?_⟩
  iterate 4 refine Below.setCell (B := wr.heap.size) ?_ (by exact Nat.le_refl _) _
  exact HB1.out
theorem QJ.at0 {A : Qu} {f : Nat → Jb} {n : Nat} (h : A.l.map (·.1) = (fL f n).map jW) (h0 : 0 < A.l.length) (hn : 0 < n) : A.l[0].1 = jW (f 0) := by
  have e := congrArg (fun l => l[0]?) h
  simp only [List.getElem?_map, fL_get hn, List.getElem?_eq_getElem h0, Option.map_some, Option.some.injEq] at e
  exact e
theorem qput (w wr : World) (b n : Nat) (s : Value) (f : Nat → Jb) (z : Int) (h : QJ w b s n f z wr) (x : Jb) (hn : 0 < n) (hz : z < 1000) :
    Calls Tryd.prog 58 #[.pointer (some ⟨b, 0, none⟩), .int .i64 0, jW x] wr fun e w' => e = .returned .nilIface ∧ QJ w b s n (upd f 0 x) (z + 1) w' ∧ Keeps (fun y => y = b ∨ s.ownBlock = some y) wr w' := by
  obtain ⟨⟨A, h1, h2, h5, h6, h4⟩, h3⟩ := h
  have hl := QJ.len h4
  refine (put_yes w.heap.size A h2 wr b s h1 0 (by omega) x (by omega)).mono ?_
  rintro e w' ⟨rfl, hp, hk⟩
  refine ⟨rfl, ⟨⟨_, hp, good_put h2 x, h5, by rw [← h6]; rfl, ?_⟩, below_of_keeps h3 hk ?_⟩, hk⟩
  · have e := fL_put f n x
    unfold upd
    rw [← e, List.map_set, ← h4]
    simp [Qu.put]
  · rintro y (rfl | e)
    · exact h1.hb
    · exact (h1.own.lt y e).1
theorem qpop (w wr : World) (b n : Nat) (s : Value) (f : Nat → Jb) (z : Int) (h : QJ w b s n f z wr) (hn : 0 < n) :
    Calls Tryd.prog 60 #[.pointer (some ⟨b, 0, none⟩)] wr fun e w' => e = .returned (.tuple #[jW (f 0), .nilIface]) ∧ ∃ s', QJ w b s' (n - 1) (fun i => f (i + 1)) z w' ∧ Keeps (fun y => y = b ∨ s.ownBlock = some y) wr w' := by
  obtain ⟨⟨A, h1, h2, h5, h6, h4⟩, h3⟩ := h
  have hl := QJ.len h4
  have hb0 : Below wr.heap.size wr (wr.alloc (.cells #[.int .i64 0, .int .i64 0, .int .i64 0, .int .i64 0] JT)) := (Below.refl _ wr).alloc (Nat.le_refl _) _
  refine (pop_of_J w.heap.size (A.drop 0) (f 0) wr b s A h1 (fun w1 hw1 => drop_yes_J w.heap.size A h2 w1 b s hw1 0 (by omega) (f 0) (QJ.at0 h4 (by omega) hn))).mono ?_
  rintro e w' ⟨rfl, s', hp, hk, _⟩
  refine ⟨rfl, s', ⟨⟨_, hp, h2.drop 0, h5, h6, ?_⟩, below_of_keeps h3 hk ?_⟩, hk⟩
  · have e := fL_tail f n
    rw [← e]
    have := congrArg (fun l => l.eraseIdx 0) h4
    simp only [List.eraseIdx_zero] at this ⊢
    rw [List.map_tail, ← this]
    simp [Qu.drop, List.map_tail]
  · rintro y (rfl | e)
    · exact h1.hb
    · exact (h1.own.lt y e).1
theorem qlist (w wr : World) (b n : Nat) (s : Value) (f : Nat → Jb) (z : Int) (h : QJ w b s n f z wr) :
    Calls Tryd.prog 49 #[.pointer (some ⟨b, 0, none⟩)] wr (JListPost wr n f) := jlist_any wr _ n f h.holds
end Go.Proofs.YtpfhebfkhailfaaDoor
