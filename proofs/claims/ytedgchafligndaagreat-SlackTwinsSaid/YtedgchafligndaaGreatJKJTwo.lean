/- The document's Kind of a handle; two pools abreast, each with its Run; what stays where tasks go; no condition but those that each row names. -/
import Derived.Test.YtedgchafligndaaGreatJKJPlay
namespace Go.Proofs.YtedgchafligndaaGreat
open Go.RowKit Tsk

theorem rparts_ok (h : Int) (w : World) (k : okH h) :
    Calls Tryz.prog 48 #[.int .i64 h] w fun e w' => e = .returned (.tuple #[.int .i64 (kOf h), .int .i64 (sOf h), .int .i64 (gOf h)]) ∧ w = w' := by
  obtain ⟨b1, b2⟩ := okH_bd k
  have e1 : bits .and .i64 (h / 1048576) 1048575 = sOf h := i64_mask _
  have e2 : bits .and .i64 h 1048575 = gOf h := i64_mask _
  go_enter Tryz.func48, Tryz.ntmps48
  go_wp2_with fail
  refine (rmake_ok (kOf h) _ _ _ k).mono ?_
  rintro e w1 ⟨rfl, rfl⟩
  go_wp2_with fail
  go_ret3
  exact ⟨rfl, rfl⟩

theorem rkind_ok (h : Int) (w : World) (k : okH h) :
    Calls Tryz.prog 19 #[.int .i64 h] w fun e w' => e = .returned (.int .i64 (kOf h)) ∧ w = w' := by
  go_enter Tryz.func19, Tryz.ntmps19
  go_wp2_with fail
  refine (rparts_ok _ _ k).mono ?_
  rintro e w1 ⟨rfl, rfl⟩
  go_wp2_with fail
  go_ret
  exact ⟨rfl, rfl⟩

/-- The pool that waits while the other is played: in none of the blocks Y that turn. -/
structure Side (S Y : Nat → Prop) (B R : Nat) (wr : World) (A : Tab) (T : Nat → Tk) (la : Int) (v gs ts ks : Value) : Prop where
  pl : Pl S (fun x => S x ∨ Y x) B wr A T la v
  dp : DP Y wr A T gs ts ks
  hr : ∃ wv now, HasR wr R gs ts ks la wv now
  s1 : ∀ x, S x → ¬ Y x
  r1 : ¬ Y R
  yw : ∀ x, Y x → x < wr.heap.size
theorem Side.step {S Y Y2 Q : Nat → Prop} {B R : Nat} {wr W : World} {A : Tab} {T : Nat → Tk} {la : Int} {v gs ts ks : Value} (h : Side S Y B R wr A T la v gs ts ks) (hk : Keeps Q wr W) (hq : ∀ x, Q x → Y x) (hy : ∀ x, x < wr.heap.size → Y2 x → Y x) (hyy : ∀ x, Y x → Y2 x) (hw : ∀ x, Y2 x → x < W.heap.size) : Side S Y2 B R W A T la v gs ts ks := by
  obtain ⟨wv, now, hr⟩ := h.hr
  refine ⟨(h.pl.mono (fun x hx q => ?_)).keeps hk (fun x hx q => h.s1 x hx (hq x q)) (fun x q => .inr (hyy x (hq x q))), (h.dp.mono hy).keeps (hk.mono (fun x q => hyy x (hq x q))), ⟨wv, now, has_keeps hr hk (fun q => h.r1 (hq R q))⟩, fun x hx q => h.s1 x hx (hy x (h.pl.lt x hx).2 q), fun q => h.r1 (hy R (has_lt hr) q), hw⟩
  rcases q with q | q
  · exact .inl q
  · exact .inr (hy x hx q)
theorem Side.below {S Y : Nat → Prop} {B R : Nat} {wr W : World} {A : Tab} {T : Nat → Tk} {la : Int} {v gs ts ks : Value} (h : Side S Y B R wr A T la v gs ts ks) (hb : Below wr.heap.size wr W) : Side S Y B R W A T la v gs ts ks :=
  h.step (Q := fun _ => False) (Keeps.of_below hb) (fun _ q => q.elim) (fun _ _ q => q) (fun _ q => q) (fun x q => Nat.lt_of_lt_of_le (h.yw x q) hb.size)
/-- A twin beside its pool: the twin is played with a Run that is a copy. -/
theorem two_start {S X S2 : Nat → Prop} {B R : Nat} {wr w1 w2 W3 : World} {A : Tab} {T : Nat → Tk} {la : Int} {v q gs ts ks wv : Value} {L : List Int} {now : Int} (h : PlayR S X B R wr A T la v gs ts ks wv L now) (hB : B ≤ wr.heap.size)
    (ht : ∀ X : Nat → Prop, (∀ x, X x → x < wr.heap.size) → Pl S2 (fun x => X x ∨ S2 x) wr.heap.size w1 A T la q) (hb1 : Below wr.heap.size wr w1) (hb2 : Below w1.heap.size w1 w2) (hW : W3 = w2.alloc (.cells #[gs, ts, ks, .int .i64 la, wv, .int .i64 now] RT14)) :
    ∃ X2, PlayR S2 X2 B w2.heap.size W3 A T la q gs ts ks wv L now ∧ Side S X2 B R W3 A T la v gs ts ks ∧ (∀ x, S2 x → X2 x) ∧ X2 w2.heap.size ∧ (∀ g, wv.ownBlock = some g → X2 g) := by
  have hb3 : Below w2.heap.size w2 W3 := by rw [hW]; exact (Below.refl _ _).alloc (Nat.le_refl _) _
  have hs3 : W3.heap.size = w2.heap.size + 1 := by rw [hW]; simp
  have hbw : Below wr.heap.size wr W3 := bnext (bnext hb1 hb2) hb3
  have h1 := hb1.size
  have h2 := hb2.size
  have hrow : ∀ g, wv.ownBlock = some g → g < wr.heap.size := fun g e => h.ro.xw g (h.ro.rx g e)
  have hq := ht (fun x => wv.ownBlock = some x) hrow
  have hS2 := hq.lt
  have hlr := has_lt h.hr
  have hX2 : ∀ x, x < wr.heap.size → (wv.ownBlock = some x ∨ S2 x ∨ x = w2.heap.size) → wv.ownBlock = some x := fun x hx k => by
    rcases k with k | k | k
    · exact k
    · have := (hS2 x k).1; omega
    · omega
  refine ⟨fun x => wv.ownBlock = some x ∨ S2 x ∨ x = w2.heap.size, ⟨⟨h.ro.pi, ?_, (h.ro.dp.mono (fun x hx k => h.ro.rx x (hX2 x hx k))).below hbw, own_under h.ro.row hbw, fun x k => .inr (.inl k), fun g e => .inl e, fun g e k => by have := hrow g e; have := (hS2 g k).1; omega, fun x k => ?_⟩, by rw [hW]; exact hasR_new _ _ _ _ _ _ _, .inr (.inr rfl), fun k => by have := (hS2 _ k).2; omega, fun g e => by have := hrow g e; omega⟩,
    ⟨(h.ro.pl.mono (fun x hx k => ?_)).below hbw, (h.ro.dp.mono (fun x hx k => h.ro.rx x (hX2 x hx k))).below hbw, ⟨wv, now, h.hr.below hbw⟩, fun x hx k => h.ro.rs x (hX2 x (h.ro.pl.lt x hx).2 k) hx, fun k => h.rw R (hX2 R hlr k) rfl, fun x k => ?_⟩, fun x k => .inr (.inl k), .inr (.inr rfl), fun g e => .inl e⟩
  · exact (((hq.base hB).below hb2).mono (fun x hx k => by
      rcases k with k | k | k
      · exact .inl k
      · exact .inr k
      · omega)).below hb3
  · rcases k with k | k | k
    · have := hrow x k; omega
    · have := (hS2 x k).2; omega
    · omega
  · rcases k with k | k
    · exact h.ro.sx x k
    · exact h.ro.rx x (hX2 x hx k)
  · rcases k with k | k | k
    · have := hrow x k; omega
    · have := (hS2 x k).2; omega
    · omega
/-- What the second loop carries. -/
def TwW (w : World) (S R : Nat → Prop) (r : Nat) (A1 : Tab) (T1 : Nat → Tk) (la1 : Int) (v gs1 ts1 ks1 : Value) (r2 : Nat) (q : Value) (n : Nat) (wr : World) : Prop :=
  ∃ X Y A T la gs ts ks wv L now, PlayR R X w.heap.size r2 wr A T la q gs ts ks wv L now ∧ Side S Y w.heap.size r wr A1 T1 la1 v gs1 ts1 ks1 ∧ (∀ x, R x → Y x) ∧ Y r2 ∧ (∀ g, wv.ownBlock = some g → Y g) ∧ L.length ≤ n ∧ Below w.heap.size w wr
/-- Behind a round of it. -/
theorem two_turn {S S2 X' Y : Nat → Prop} {B R R2 : Nat} {wr wx : World} {A1 A : Tab} {T1 T : Nat → Tk} {la1 la : Int} {v q gs1 ts1 ks1 wv0 gs ts ks wv : Value} {m : Nat} {L : List Int} {now : Int} {bx : Nat} (hs : Side S Y B R wr A1 T1 la1 v gs1 ts1 ks1) (hy : ∀ x, S2 x → Y x) (hy2 : Y R2) (hyr : ∀ g, wv0.ownBlock = some g → Y g)
    (c : CutR S2 X' B R2 wr q wv0 m A T la gs ts ks wv L now bx wx) : ∃ Y2, Side S Y2 B R (st6 wx R2 gs ts ks (.int .i64 la) wv (.int .i64 now)) A1 T1 la1 v gs1 ts1 ks1 ∧ (∀ x, S2 x → Y2 x) ∧ Y2 R2 ∧ (∀ g, wv.ownBlock = some g → Y2 g) := by
  obtain ⟨hp, hk⟩ := c.turn
  refine ⟨fun x => Y x ∨ wv.ownBlock = some x, hs.step hk (fun x k => ?_) (fun x hx k => ?_) (fun x k => .inl k) (fun x k => ?_), fun x k => .inl (hy x k), .inl hy2, fun g e => .inr e⟩
  · rcases k with (k | k) | k
    · exact hy x k
    · exact hyr x k
    · rw [k]; exact hy2
  · rcases k with k | k
    · exact k
    · rcases c.ro0 x k with k2 | k2
      · exact hyr x k2
      · omega
  · rcases k with k | k
    · exact Nat.lt_of_lt_of_le (hs.yw x k) hk.size
    · exact hp.ro.xw x (hp.ro.rx x k)
/-! Where tasks go, and others come: what stays of the handles. -/
/-- The slots of the first k handles have gone on, the others stand. -/
structure Went (A0 A : Tab) (k : Nat) : Prop where
  kind : A.kind = A0.kind
  len : A.gens.length = A0.gens.length
  stay : ∀ j, k ≤ j → j < A0.idxs.length → A.t (A0.idxs.getD j 0) = true ∧ A.g (A0.idxs.getD j 0) = A0.g (A0.idxs.getD j 0)
  on : ∀ j, j < k → j < A0.idxs.length → A0.g (A0.idxs.getD j 0) < A.g (A0.idxs.getD j 0)
theorem Went.start (A : Tab) : Went A A 0 := ⟨rfl, rfl, fun _ _ hj => ⟨(idxs_at hj).2, rfl⟩, fun _ hj => absurd hj (Nat.not_lt_zero _)⟩
theorem idxs_ne {A : Tab} {i j : Nat} (hi : i < A.idxs.length) (hj : j < A.idxs.length) (hij : i ≠ j) : A.idxs.getD i 0 ≠ A.idxs.getD j 0 := fun e => by
  have h1 := rank_idxs hi
  have h2 := rank_idxs hj
  rw [e, h2] at h1
  exact hij h1.symm
theorem Went.find {A0 A : Tab} {k : Nat} (h : Went A0 A k) (hA : A.Good) (hk : k < A0.idxs.length) : A.find (A0.hd (A0.idxs.getD k 0)) = some (A0.idxs.getD k 0) := by
  obtain ⟨h1, h2⟩ := h.stay k (Nat.le_refl _) hk
  have e : A0.hd (A0.idxs.getD k 0) = A.hd (A0.idxs.getD k 0) := by unfold Tab.hd; rw [h.kind, h2]
  rw [e]
  exact find_hd hA (by rw [h.len]; exact (idxs_at hk).1) h1
theorem Went.drop {A0 A : Tab} {k : Nat} (h : Went A0 A k) (hA : A.Good) (hk : k < A0.idxs.length) : Went A0 (A.dropAt (A0.idxs.getD k 0)) (k + 1) := by
  have hi : A0.idxs.getD k 0 < A.gens.length := by rw [h.len]; exact (idxs_at hk).1
  have hit : A0.idxs.getD k 0 < A.taken.length := by rw [hA.lt]; exact hi
  have eg : ∀ x, (A.dropAt (A0.idxs.getD k 0)).g x = if A0.idxs.getD k 0 = x then A.g (A0.idxs.getD k 0) + 1 else A.g x := fun x => getD_set A.gens _ x _ 0 hi
  have et : ∀ x, (A.dropAt (A0.idxs.getD k 0)).t x = if A0.idxs.getD k 0 = x then false else A.t x := fun x => getD_set A.taken _ x false false hit
  refine ⟨h.kind, by simp [Tab.dropAt]; exact h.len, fun j hj hjn => ?_, fun j hj hjn => ?_⟩
  · have hne := idxs_ne hk hjn (by omega)
    rw [eg, et, if_neg hne, if_neg hne]
    exact h.stay j (by omega) hjn
  · rw [eg]
    by_cases e : k = j
    · subst e
      rw [if_pos rfl, (h.stay k (Nat.le_refl _) hk).2]
      omega
    · rw [if_neg (idxs_ne hk hjn e)]
      exact h.on j (by omega) hjn
theorem Went.add {A0 A : Tab} (h : Went A0 A A0.idxs.length) (p : Int) : Went A0 (addA A p) A0.idxs.length := by
  rcases add_ways A (fun _ => tk0) p with ⟨_, _, _, e3, _⟩ | ⟨_, _, _, _, e3, _⟩ | ⟨i, hp, hf, _, _, e3, _⟩
  · rw [e3]; exact h
  · rw [e3]; exact h
  · rw [e3]
    exact ⟨h.kind, h.len, fun j hj hjn => absurd hjn (by omega), fun j hj hjn => h.on j hj hjn⟩
/-- A handle that went names nothing again. -/
theorem Went.none {A0 A : Tab} (h : Went A0 A A0.idxs.length) (hA0 : A0.Good) (hA : A.Good) {j : Nat} (hj : j < A0.idxs.length) : A.find (A0.hd (A0.idxs.getD j 0)) = none := by
  cases hf : A.find (A0.hd (A0.idxs.getD j 0)) with
  | none => rfl
  | some i =>
    obtain ⟨h1, h2, h3⟩ := find_inv hf
    have h4 := hd_parts hA h1 h2
    have h5 := hd_parts hA0 (idxs_at hj).1 (idxs_at hj).2
    rw [h3] at h4
    have e1 : (i : Int) = (A0.idxs.getD j 0 : Nat) := h4.2.2.1.symm.trans h5.2.2.1
    have e2 : i = A0.idxs.getD j 0 := by omega
    have e3 : A.g i = A0.g (A0.idxs.getD j 0) := h4.2.2.2.symm.trans h5.2.2.2
    rw [e2] at e3
    have := h.on j hj hj
    omega
end Go.Proofs.YtedgchafligndaaGreat
