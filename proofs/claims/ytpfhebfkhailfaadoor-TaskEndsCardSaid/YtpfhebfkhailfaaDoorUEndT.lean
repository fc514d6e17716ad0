/- TaskEnds: the task in its block, and the calls as the law's walk reads them; no condition but those that each row names. -/
import Derived.Test.YtpfhebfkhailfaaDoorUEndM
import Derived.Test.YtpfhebfkhailfaaDoorUWork
namespace Go.Proofs.YtpfhebfkhailfaaDoor
open Go.RowKit Go.Shelf Tsk

/-- The task in its block. -/
def Now5 (w : World) (b : Nat) (n : Nat) (f : Nat → Jb) (k : Ac) (W : World) : Prop := ∃ s c, HasT W b 0 (.slice s n c) k ∧ Jobs W (.slice s n c) n f ∧ Below w.heap.size w W ∧ w.heap.size ≤ b
theorem Now5.put {w W : World} {b B n : Nat} {f : Nat → Jb} {k k0 : Ac} {s0 : Value} {t : Option Addr} {c : Nat} (h1 : HasT W b 0 s0 k0) (h2 : JobsO B W (.slice t n c) n f) (hb : b < B) (h3 : Below w.heap.size w W) (h4 : w.heap.size ≤ b) (hn : n ≤ 9223372036854775807) :
    Now5 w b n f k ((((((((W.setCell ⟨b, 0, none⟩ (.int .i64 0)).setCell ⟨b, 1, none⟩ (.slice t n c)).setCell ⟨b, 2, none⟩ (.int .i64 k.g)).setCell ⟨b, 3, none⟩ (.int .i64 k.o)).setCell ⟨b, 4, none⟩ (.int .i64 k.n)).setCell ⟨b, 5, none⟩ (.int .i64 k.d)).setCell ⟨b, 6, none⟩ (.int .i64 k.c)).setCell ⟨b, 7, none⟩ (.int .i64 k.t)) := by
  refine ⟨t, c, HasT.set8 h1, own_jobs (B := B) ?_ hn, ?_, h4⟩
  · exact own_low (own_low (own_low (own_low (own_low (own_low (own_low (own_low h2 _ _ hb) _ _ hb) _ _ hb) _ _ hb) _ _ hb) _ _ hb) _ _ hb) _ _ hb
  · exact below_low (below_low (below_low (below_low (below_low (below_low (below_low (below_low h3 _ _ h4) _ _ h4) _ _ h4) _ _ h4) _ _ h4) _ _ h4) _ _ h4) _ _ h4
/-- Behind a call: the task's block as it was, the answer in a block of its own. -/
def U9 (w : World) (b x n : Nat) (f : Nat → Jb) (k0 K : Ac) (W : World) : Prop := ∃ t c B s0, HasT W b 0 s0 k0 ∧ HasT W x 0 (.slice t n c) K ∧ JobsO B W (.slice t n c) n f ∧ b < B ∧ Below w.heap.size w W ∧ w.heap.size ≤ b
theorem U9.below {w W W' : World} {b x n : Nat} {f : Nat → Jb} {k0 K : Ac} (h : U9 w b x n f k0 K W) (hb : Below W.heap.size W W') : U9 w b x n f k0 K W' := by
  obtain ⟨t, c, B, s0, h1, h2, h3, h4, h5, h6⟩ := h
  exact ⟨t, c, B, s0, h1.below hb, h2.below hb, own_under h3 hb, h4, bnext h5 hb, h6⟩
/-- Push's answer, its block made behind the call. -/
theorem U9.a {w wr w6 : World} {b n : Nat} {f : Nat → Jb} {k0 K : Ac} {s0 : Value} {t : Option Addr} {c : Nat} (h1 : HasT wr b 0 s0 k0) (h2 : Below w.heap.size w wr) (h3 : w.heap.size ≤ b) (h4 : JobsO wr.heap.size w6 (.slice t n c) n f) (h5 : Below wr.heap.size wr w6) :
    U9 w b w6.heap.size n f k0 K (w6.alloc (.cells #[.int .i64 0, .slice t n c, .int .i64 K.g, .int .i64 K.o, .int .i64 K.n, .int .i64 K.d, .int .i64 K.c, .int .i64 K.t] KT)) :=
  ⟨t, c, wr.heap.size, s0, (h1.below h5).below ((Below.refl _ _).alloc (Nat.le_refl _) _), hasT_new _ _ _ K, own_under h4 ((Below.refl _ _).alloc (Nat.le_refl _) _), has_lt h1, bnext h2 (h5.alloc h5.size _), h3⟩
/-- The same, its block made ahead of the call. -/
theorem U9.b {w wr w6 wx : World} {b x n : Nat} {f : Nat → Jb} {k0 K k1 : Ac} {s0 s1 : Value} {t : Option Addr} {c : Nat} (h1 : HasT wr b 0 s0 k0) (h2 : Below w.heap.size w wr) (h3 : w.heap.size ≤ b) (hx : HasT wx x 0 s1 k1) (hbx : wr.heap.size ≤ x) (h0 : Below wr.heap.size wr wx) (h4 : JobsO wx.heap.size w6 (.slice t n c) n f) (h5 : Below wx.heap.size wx w6) :
    U9 w b x n f k0 K ((((((((w6.setCell ⟨x, 0, none⟩ (.int .i64 0)).setCell ⟨x, 1, none⟩ (.slice t n c)).setCell ⟨x, 2, none⟩ (.int .i64 K.g)).setCell ⟨x, 3, none⟩ (.int .i64 K.o)).setCell ⟨x, 4, none⟩ (.int .i64 K.n)).setCell ⟨x, 5, none⟩ (.int .i64 K.d)).setCell ⟨x, 6, none⟩ (.int .i64 K.c)).setCell ⟨x, 7, none⟩ (.int .i64 K.t)) := by
  have hb := has_lt h1
  have hne : b ≠ x := by omega
  have hxl := has_lt hx
  have h6 := bnext h0 h5
  refine ⟨t, c, wx.heap.size, s0, ?_, HasT.set8 (hx.below h5), ?_, by omega, ?_, h3⟩
  · exact ((((((((h1.below h6).other _ _ (Ne.symm hne)).other _ _ (Ne.symm hne)).other _ _ (Ne.symm hne)).other _ _ (Ne.symm hne)).other _ _ (Ne.symm hne)).other _ _ (Ne.symm hne)).other _ _ (Ne.symm hne)).other _ _ (Ne.symm hne)
  · exact own_low (own_low (own_low (own_low (own_low (own_low (own_low (own_low h4 _ _ hxl) _ _ hxl) _ _ hxl) _ _ hxl) _ _ hxl) _ _ hxl) _ _ hxl) _ _ hxl
  · have h7 := bnext h2 h6
    have h8 : w.heap.size ≤ x := by have := h2.size; omega
    exact below_low (below_low (below_low (below_low (below_low (below_low (below_low (below_low h7 _ _ h8) _ _ h8) _ _ h8) _ _ h8) _ _ h8) _ _ h8) _ _ h8) _ _ h8
/-- Behind 't = u'. -/
theorem U9.put {w W : World} {b x n : Nat} {f : Nat → Jb} {k0 K : Ac} (h : U9 w b x n f k0 K W) (hn : n ≤ 9223372036854775807) :
    ∃ t c, HasT W x 0 (.slice t n c) K ∧ (∃ s0, HasT W b 0 s0 k0) ∧ (∀ j, W.frozen? ⟨b, j, none⟩ = false) ∧ b < W.heap.size ∧ Now5 w b n f K ((((((((W.setCell ⟨b, 0, none⟩ (.int .i64 0)).setCell ⟨b, 1, none⟩ (.slice t n c)).setCell ⟨b, 2, none⟩ (.int .i64 K.g)).setCell ⟨b, 3, none⟩ (.int .i64 K.o)).setCell ⟨b, 4, none⟩ (.int .i64 K.n)).setCell ⟨b, 5, none⟩ (.int .i64 K.d)).setCell ⟨b, 6, none⟩ (.int .i64 K.c)).setCell ⟨b, 7, none⟩ (.int .i64 K.t)) := by
  obtain ⟨t, c, B, s0, h1, h2, h3, h4, h5, h6⟩ := h
  exact ⟨t, c, h2, ⟨s0, h1⟩, fun j => has_free h1 j, has_lt h1, Now5.put h1 h3 h4 h5 h6 hn⟩
theorem Now5.congr {w W : World} {b n : Nat} {f g : Nat → Jb} {k : Ac} (h : Now5 w b n f k W) (e : ∀ j, j < n → f j = g j) : Now5 w b n g k W := by
  obtain ⟨s, c, h1, h2, h3, h4⟩ := h
  exact ⟨s, c, h1, h2.congr e, h3, h4⟩
theorem Now5.under {w W W' : World} {b n : Nat} {f : Nat → Jb} {k : Ac} (h : Now5 w b n f k W) (hb : Below W.heap.size W W') : Now5 w b n f k W' := by
  obtain ⟨s, c, h1, h2, h3, h4⟩ := h
  exact ⟨s, c, h1.below hb, h2.below hb, bnext h3 hb, h4⟩
theorem Now5.bel {w W : World} {b n : Nat} {f : Nat → Jb} {k : Ac} (h : Now5 w b n f k W) : Below w.heap.size w W := by
  obtain ⟨s, c, h1, h2, h3, h4⟩ := h
  exact h3
theorem endE_ne (j : Jb) : endE j ≠ 0 := by unfold endE; split <;> omega
/-- An account in a block of its own. -/
def HasA (W : World) (g : Nat) (k : Ac) : Prop := Has W g (.cells #[.int .i64 k.g, .int .i64 k.o, .int .i64 k.n, .int .i64 k.d, .int .i64 k.c, .int .i64 k.t] 24 (0, 0))
theorem HasA.below {W W' : World} {g : Nat} {k : Ac} (h : HasA W g k) (hb : Below W.heap.size W W') : HasA W' g k := (hb.block g (has_lt h)).trans h
theorem HasA.cells {W : World} {g : Nat} {k : Ac} (h : HasA W g k) :
    W.cell? ⟨g, 0, none⟩ = some (.int .i64 k.g) ∧ W.cell? ⟨g, 1, none⟩ = some (.int .i64 k.o) ∧ W.cell? ⟨g, 2, none⟩ = some (.int .i64 k.n) ∧ W.cell? ⟨g, 3, none⟩ = some (.int .i64 k.d) ∧ W.cell? ⟨g, 4, none⟩ = some (.int .i64 k.c) ∧ W.cell? ⟨g, 5, none⟩ = some (.int .i64 k.t) :=
  ⟨(has_cell h 0).trans rfl, (has_cell h 1).trans rfl, (has_cell h 2).trans rfl, (has_cell h 3).trans rfl, (has_cell h 4).trans rfl, (has_cell h 5).trans rfl⟩
theorem hasA_new (w : World) (k : Ac) : HasA (w.alloc (.cells #[.int .i64 k.g, .int .i64 k.o, .int .i64 k.n, .int .i64 k.d, .int .i64 k.c, .int .i64 k.t] 24)) w.heap.size k := has_new _ _ _ rfl
theorem acZ : AcE ((0 : Nat) : Int) ((0 : Nat) : Int) (60 * ((0 : Nat) : Int)) kZ := by
  unfold AcE kZ; decide
theorem start2 {w W : World} {b n : Nat} {f : Nat → Jb} {now : Int} {k : Ac} (h : Now5 w b n (j0 f now) k W) : Now5 w b (n - 0) (fun j => j0 f now (0 + j)) k W :=
  h.congr fun j _ => by rw [Nat.zero_add]
theorem start3 {w W : World} {b n i : Nat} {f : Nat → Jb} {now : Int} {k : Ac} (hd : 1 ≤ need (f i)) (h : Now5 w b (n - i) (fun j => j0 f now (i + j)) k W) : Now5 w b (nE f n i 0) (fE f now i 0) k W := by
  have hN : nE f n i 0 = n - i := by unfold nE; rw [if_pos (by omega)]
  rw [hN]
  refine h.congr fun j _ => ?_
  unfold fE
  rw [if_pos (by omega)]
  by_cases e : j = 0
  · subst e
    rw [if_pos rfl]
    unfold j0
    simp
  · rw [if_neg e]
theorem startA {i : Nat} {f : Nat → Jb} {k : Ac} (hd : 1 ≤ need (f i)) (h : AcE i i (60 * i) k) : AcE (eE f i 0) (i + 0) (60 * i + 0) k := by
  unfold eE
  rw [if_pos (by omega), Int.add_zero, Int.add_zero]
  exact h
theorem fin3 {w W : World} {b n i : Nat} {f : Nat → Jb} {now s : Int} {k : Ac} (hs : ¬ s < need (f i)) (h : Now5 w b (nE f n i s) (fE f now i s) k W) : Now5 w b (n - (i + 1)) (fun j => j0 f now (i + 1 + j)) k W := by
  have hN : nE f n i s = n - (i + 1) := by unfold nE; rw [if_neg hs]
  rw [hN] at h
  exact h.congr fun j _ => by unfold fE; rw [if_neg hs]
theorem finA {i : Nat} {f : Nat → Jb} {s : Int} {k : Ac} (hs : ¬ s < need (f i)) (hs2 : s ≤ need (f i)) (hf : okI (f i)) (h : AcE (eE f i s) (i + s) (60 * i + s) k) : AcE ((i + 1 : Nat) : Int) ((i + 1 : Nat) : Int) (60 * ((i + 1 : Nat) : Int)) k := by
  have hd := need_le hf
  unfold eE at h
  rw [if_neg hs] at h
  obtain ⟨h1, h2, h3, h4, h5, h6, h7, h8, h9⟩ := h
  exact ⟨h1, h2, by omega, h4, h5, h6, by omega, by omega, by omega⟩
theorem push_end {f : Nat → Jb} {now : Int} {n i : Nat} (hn : n ≤ 8) (hi : i < n) (hf : ∀ j, j < i → okI (f j)) (hfi : okI (f i)) (ht : 0 ≤ now ∧ now ≤ 1048576) (W : World) (s : Value) (h : Jobs W s i (j0 f now)) :
    Calls Tryd.prog 22 #[tV 0 s kZ, jV (f i), .int .i64 now] W fun e w' => ∃ t c, e = .returned (.tuple #[tV 0 (.slice t (i + 1) c) kZ, .nilIface]) ∧ JobsO W.heap.size w' (.slice t (i + 1) c) (i + 1) (j0 f now) ∧ Below W.heap.size W w' := by
  have hE : pushE 0 i (j0 f now) kZ (f i) now = 0 := by
    have ho : okT 0 i (j0 f now) kZ := ⟨by omega, by omega, fun j hj => okJ_j0 ht (hf j hj), by unfold okA; decide⟩
    have hj : okJ ⟨(f i).l, (f i).c, now, (f i).d⟩ := okJ_j0 (f := f) ht hfi
    unfold pushE
    rw [if_neg (fun x => x ho), if_neg (fun x => x ⟨by omega, by omega⟩), if_neg (fun x => x hj), if_neg (by omega)]
  have hu : upd (j0 f now) i ⟨(f i).l, (f i).c, now, (f i).d⟩ = j0 f now := by
    funext j
    by_cases e : j = i
    · subst e; exact upd_same _ _
    · exact upd_ne _ e
  refine (ppush_any 0 s i (j0 f now) kZ (f i) now W h (by decide)).mono ?_
  rintro e w' ⟨x, rfl, t, c, rfl, ho, hb⟩
  rw [hE, hu, if_pos rfl] at ho
  rw [hE, errV_0]
  simp only [if_true]
  exact ⟨t, c, rfl, ho, hb⟩
theorem run_end {f : Nat → Jb} {now : Int} {n i : Nat} {s : Int} {k : Ac} (hn : n ≤ 8) (hi : i < n) (hf : ∀ j, j < n → okI (f j)) (ht : 0 ≤ now ∧ now ≤ 1048576) (hs : 0 ≤ s) (hsn : s < need (f i)) (hk : AcE (eE f i s) (i + s) (60 * i + s) k) (W : World) (v : Value) (h : Jobs W v (nE f n i s) (fE f now i s)) :
    Calls Tryd.prog 24 #[tV 0 v k, .int .i64 (now + k.g)] W fun e w' => ∃ t c, e = .returned (.tuple #[tV 0 (.slice t (nE f n i (s + 1)) c) (runK k (fE f now i s 0) (now + k.g)), .int .i64 (if s + 1 = need (f i) then endE (f i) else 0), .int .i64 (if s + 1 = need (f i) ∧ 0 < (f i).d then max 0 (now + k.g + 1 - now - (f i).d) else 0), .nilIface]) ∧
      JobsO W.heap.size w' (.slice t (nE f n i (s + 1)) c) (nE f n i (s + 1)) (fE f now i (s + 1)) ∧ Below W.heap.size W w' := by
  obtain ⟨ho, hE⟩ := step_E hn hi hf ht hs hsn hk
  have hF : runF (fE f now i s) = fE f now i (s + 1) := funext fun j => step_F hi hf hsn j
  refine (prun_any 0 v _ _ k (now + k.g) W h (okT_c ho)).mono ?_
  rintro e w' ⟨x, rfl, t, c, rfl, ho2, hb⟩
  rw [hE, if_pos rfl, hF, step_N hi hf hsn] at ho2
  rw [hE, errV_0]
  simp only [if_true]
  rw [step_N hi hf hsn, step_W hi hf hsn, step_L hi hf hsn]
  exact ⟨t, c, rfl, ho2, hb⟩
theorem work_end {f : Nat → Jb} {now : Int} {n i : Nat} {s : Int} {k : Ac} (hn : n ≤ 8) (hi : i < n) (hf : ∀ j, j < n → okI (f j)) (ht : 0 ≤ now ∧ now ≤ 1048576) (hs : 0 ≤ s) (hk : okA k) (W : World) (v : Value) (h : Jobs W v (nE f n i s) (fE f now i s)) :
    (Calls Tryd.prog 34 #[tV 0 v k] W fun e w' => e = .returned (.int .i64 (workS (fE f now i s) (nE f n i s))) ∧ Below W.heap.size W w') ∧ (Calls Tryd.prog 14 #[tV 0 v k] W fun e w' => e = .returned .nilIface ∧ Below W.heap.size W w') := by
  have ho : okT 0 (nE f n i s) (fE f now i s) k := okT_E hn hi hf ht hs hk
  have h1 := pwork 0 v _ _ k W h (okT_c ho)
  have h2 := pvalid 0 v _ _ k W h (okT_c ho)
  rw [if_pos ho] at h1
  rw [ok_yes ho, errV_0] at h2
  exact ⟨h1, h2⟩
/-- Push, from a world that drew. -/
theorem push_a {f : Nat → Jb} {now : Int} {n i : Nat} {w wr : World} {b : Nat} {s : Value} (hn : n ≤ 8) (hi : i < n) (hf : ∀ j, j < i → okI (f j)) (hfi : okI (f i)) (ht : 0 ≤ now ∧ now ≤ 1048576) (h1 : HasT wr b 0 s kZ) (h2 : Below w.heap.size w wr) (h3 : w.heap.size ≤ b) (h : Jobs wr s i (j0 f now)) :
    Calls Tryd.prog 22 #[.agg #[.int .i64 0, s, .int .i64 0, .int .i64 0, .int .i64 0, .int .i64 0, .int .i64 0, .int .i64 0], jV (f i), .int .i64 now] wr.drew fun e w6 => ∃ t c, e = .returned (.tuple #[.agg #[.int .i64 0, .slice t (i + 1) c, .int .i64 0, .int .i64 0, .int .i64 0, .int .i64 0, .int .i64 0, .int .i64 0], .nilIface]) ∧
      Hid (U9 w b w6.heap.size (i + 1) (j0 f now) kZ kZ (w6.alloc (.cells #[.int .i64 0, .slice t (i + 1) c, .int .i64 0, .int .i64 0, .int .i64 0, .int .i64 0, .int .i64 0, .int .i64 0] KT))) := by
  refine (push_end hn hi hf hfi ht wr.drew s (h.below below_drewOne)).mono ?_
  rintro e w6 ⟨t, c, rfl, h4, h5⟩
  exact ⟨t, c, rfl, Lib.hid (U9.a (wr := wr) (K := kZ) h1 h2 h3 h4 (bnext below_drewOne h5))⟩
/-- Push, from a world in which the answer's block was made. -/
theorem push_b {f : Nat → Jb} {now : Int} {n i : Nat} {w wr : World} {b : Nat} {s : Value} (hn : n ≤ 8) (hi : i < n) (hf : ∀ j, j < i → okI (f j)) (hfi : okI (f i)) (ht : 0 ≤ now ∧ now ≤ 1048576) (h1 : HasT wr b 0 s kZ) (h2 : Below w.heap.size w wr) (h3 : w.heap.size ≤ b) (h : Jobs wr s i (j0 f now)) :
    Calls Tryd.prog 22 #[.agg #[.int .i64 0, s, .int .i64 0, .int .i64 0, .int .i64 0, .int .i64 0, .int .i64 0, .int .i64 0], jV (f i), .int .i64 now] (wr.alloc (.cells #[.int .i64 0, .slice none 0 0, .int .i64 0, .int .i64 0, .int .i64 0, .int .i64 0, .int .i64 0, .int .i64 0] KT)).drew fun e w6 => ∃ t c, e = .returned (.tuple #[.agg #[.int .i64 0, .slice t (i + 1) c, .int .i64 0, .int .i64 0, .int .i64 0, .int .i64 0, .int .i64 0, .int .i64 0], .nilIface]) ∧
      Hid (U9 w b wr.heap.size (i + 1) (j0 f now) kZ kZ ((((((((w6.setCell ⟨wr.heap.size, 0, none⟩ (.int .i64 0)).setCell ⟨wr.heap.size, 1, none⟩ (.slice t (i + 1) c)).setCell ⟨wr.heap.size, 2, none⟩ (.int .i64 0)).setCell ⟨wr.heap.size, 3, none⟩ (.int .i64 0)).setCell ⟨wr.heap.size, 4, none⟩ (.int .i64 0)).setCell ⟨wr.heap.size, 5, none⟩ (.int .i64 0)).setCell ⟨wr.heap.size, 6, none⟩ (.int .i64 0)).setCell ⟨wr.heap.size, 7, none⟩ (.int .i64 0))) ∧
      HasT w6 wr.heap.size 0 (.slice none 0 0) ⟨0, 0, 0, 0, 0, 0⟩ := by
  have hb : Below wr.heap.size wr (wr.alloc (.cells #[.int .i64 0, .slice none 0 0, .int .i64 0, .int .i64 0, .int .i64 0, .int .i64 0, .int .i64 0, .int .i64 0] KT)).drew := ((Below.refl _ _).alloc (Nat.le_refl _) _).drew
  have hx : HasT (wr.alloc (.cells #[.int .i64 0, .slice none 0 0, .int .i64 0, .int .i64 0, .int .i64 0, .int .i64 0, .int .i64 0, .int .i64 0] KT)).drew wr.heap.size 0 (.slice none 0 0) kZ := has_drew (hasT_new wr 0 (.slice none 0 0) kZ)
  refine (push_end hn hi hf hfi ht _ s (h.below hb)).mono ?_
  rintro e w6 ⟨t, c, rfl, h4, h5⟩
  exact ⟨t, c, rfl, Lib.hid (U9.b (wr := wr) (K := kZ) h1 h2 h3 hx (Nat.le_refl _) hb h4 h5), hx.below h5⟩
/-- One Run of the law's. -/
theorem run_step {f : Nat → Jb} {now : Int} {n i : Nat} {s : Int} {k : Ac} (hn : n ≤ 8) (hi : i < n) (hf : ∀ j, j < n → okI (f j)) (ht : 0 ≤ now ∧ now ≤ 1048576) (hs : 0 ≤ s) (hsn : s < need (f i)) (hk : AcE (eE f i s) (i + s) (60 * i + s) k) :
    ∃ (K : Ac) (X L wk : Int), AcE (eE f i (s + 1)) (i + (s + 1)) (60 * i + (s + 1)) K ∧ K.g = k.g + 1 ∧ K.t = (if 0 < L then k.t + 1 else k.t) ∧ L = (if s + 1 = need (f i) ∧ 0 < (f i).d then max 0 (now + k.g + 1 - now - (f i).d) else 0) ∧ X = (if s + 1 = need (f i) then endE (f i) else 0) ∧ (0 ≤ wk ∧ wk ≤ 16777216) ∧
      (∀ (W : World) (v : Value), Jobs W v (nE f n i s) (fE f now i s) → Calls Tryd.prog 24 #[tV 0 v k, .int .i64 (now + k.g)] W fun e w' => ∃ t c, e = .returned (.tuple #[tV 0 (.slice t (nE f n i (s + 1)) c) K, .int .i64 X, .int .i64 L, .nilIface]) ∧
        JobsO W.heap.size w' (.slice t (nE f n i (s + 1)) c) (nE f n i (s + 1)) (fE f now i (s + 1)) ∧ Below W.heap.size W w') ∧
      (∀ (W : World) (v : Value), Jobs W v (nE f n i s) (fE f now i s) → Calls Tryd.prog 34 #[tV 0 v k] W fun e w' => e = .returned (.int .i64 wk) ∧ Below W.heap.size W w') ∧
      (∀ (W : World) (v : Value), Jobs W v (nE f n i (s + 1)) (fE f now i (s + 1)) → Calls Tryd.prog 34 #[tV 0 v K] W fun e w' => e = .returned (.int .i64 (wk - 1)) ∧ Below W.heap.size W w') ∧
      (∀ (W : World) (v : Value), Jobs W v (nE f n i (s + 1)) (fE f now i (s + 1)) → Calls Tryd.prog 14 #[tV 0 v K] W fun e w' => e = .returned .nilIface ∧ Below W.heap.size W w') := by
  obtain ⟨h1, h2, h3⟩ := step_K hi hf hsn hk (now + k.g)
  rw [step_L hi hf hsn] at h3
  have hl := need_le (hf i hi)
  have hA : okA k := okA_E hk (by omega) (by unfold eE; rw [if_pos hsn]; omega) (by omega)
  have hA2 := okA_E h1 (by omega) (by unfold eE; split <;> omega) (by omega)
  have ho := okT_E hn hi hf ht hs hA
  have hw := workS_le (f := fE f now i s) (n := nE f n i s) ho.2.2.1
  have hn8 := ho.2.1
  refine ⟨_, _, _, workS (fE f now i s) (nE f n i s), h1, h2, h3, rfl, rfl, ⟨hw.1, by omega⟩, fun W v h => run_end hn hi hf ht hs hsn hk W v h, fun W v h => (work_end hn hi hf ht hs hA W v h).1, fun W v h => ?_, fun W v h => (work_end hn hi hf ht (by omega) hA2 W v h).2⟩
  have h5 := (work_end hn hi hf ht (by omega) hA2 W v h).1
  rw [step_work hi hf hsn] at h5
  exact h5
theorem none_end {g : Nat → Jb} {now : Int} {n : Nat} {k : Ac} (hn : n ≤ 8) (ht : 0 ≤ now ∧ now ≤ 1048576) (hk : AcE n n (60 * n) k) (W : World) (v : Value) (h : Jobs W v 0 g) :
    (Calls Tryd.prog 24 #[tV 0 v k, .int .i64 (now + k.g)] W fun e w' => ∃ t c, e = .returned (.tuple #[tV 0 (.slice t 0 c) kZ, .int .i64 0, .int .i64 0, errV 50]) ∧ Below W.heap.size W w') ∧
    (Calls Tryd.prog 34 #[tV 0 v k] W fun e w' => e = .returned (.int .i64 0) ∧ Below W.heap.size W w') := by
  have h9 := hk.2.2.2.2.2.2.2
  have ho : okT 0 0 g k := ⟨by omega, by omega, fun j hj => absurd hj (Nat.not_lt_zero _), okA_E hk (by omega) (by omega) (by omega)⟩
  have hE : runE 0 0 g k (now + k.g) = 50 := by
    unfold runE
    rw [if_neg (fun x => x ho), if_neg (fun x => x ⟨by omega, by omega⟩), if_pos rfl]
  constructor
  · refine (prun_any 0 v _ _ k (now + k.g) W h (okT_c ho)).mono ?_
    rintro e w' ⟨x, rfl, t, c, rfl, ho2, hb2⟩
    rw [hE, if_neg (by omega), if_neg (by omega), if_neg (by omega), if_neg (by omega)]
    exact ⟨t, c, rfl, hb2⟩
  · have h1 := pwork 0 v _ _ k W h (okT_c ho)
    rw [if_pos ho] at h1
    exact h1
end Go.Proofs.YtpfhebfkhailfaaDoor
