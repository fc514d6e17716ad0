/- Round robin in a world: what the law carries; no condition but those that each row names. -/
import Derived.Test.YtedgchafligndaaJKJRnd
namespace Go.Proofs.Ytedgchafligndaa
open Go.RowKit Tsk

/-- What the law carries. -/
structure RnS (w0 : World) (S X : Nat → Prop) (A : Tab) (la : Int) (v lv : Value) (n : Nat) (T : Nat → Tk) (W : World) : Prop where
  pi : PI A T la
  pl : Pl S X w0.heap.size W A T la v
  row : W.ownsRow w0.heap.size HTy 1 lv n (ints (rL n))
  sx : ∀ x, S x → X x
  rx : ∀ g, lv.ownBlock = some g → X g
  rs : ∀ g, lv.ownBlock = some g → ¬ S g
  xw : ∀ x, X x → x < W.heap.size
  bel : Below w0.heap.size w0 W
theorem RnS.below {w0 : World} {S X : Nat → Prop} {A : Tab} {la : Int} {v lv : Value} {n : Nat} {T : Nat → Tk} {W W' : World} (h : RnS w0 S X A la v lv n T W) (hb : Below W.heap.size W W') : RnS w0 S X A la v lv n T W' :=
  ⟨h.pi, h.pl.below hb, own_under h.row hb, h.sx, h.rx, h.rs, fun x q => Nat.lt_of_lt_of_le (h.xw x q) hb.size, bnext h.bel hb⟩
theorem RnS.post {w0 : World} {S X : Nat → Prop} {A A' : Tab} {la la' : Int} {v lv : Value} {n : Nat} {T T' : Nat → Tk} {W W' : World} (h : RnS w0 S X A la v lv n T W) (hpi : PI A' T' la') (hp : Pl S X w0.heap.size W' A' T' la' v) (hk : Keeps S W W') : RnS w0 S X A' la' v lv n T' W' :=
  ⟨hpi, hp, own_keep h.row hk h.rs, h.sx, h.rx, h.rs, fun x q => Nat.lt_of_lt_of_le (h.xw x q) hk.size, below_keeps h.bel hk (fun x q => (h.pl.lt x q).1)⟩
def RnW (w0 : World) (S : Nat → Prop) (prio : Int) (many k c : Nat) (v lv : Value) (n : Nat) (W : World) : Prop := ∃ X T, RnS w0 S X (rA k) (laC many c) v lv n T W ∧ RR prio many k c T
/-- Between Create and Push. -/
def RnM (w0 : World) (S : Nat → Prop) (prio : Int) (many k : Nat) (pr : Int) (v lv : Value) (n : Nat) (W : World) : Prop := ∃ X T, RnS w0 S X (rA (k + 1)) (-1) v lv n (upd T k (tkN pr)) W ∧ RR prio many k 0 T
theorem RnW.below {w0 : World} {S : Nat → Prop} {prio : Int} {many k c : Nat} {v lv : Value} {n : Nat} {W W' : World} (h : RnW w0 S prio many k c v lv n W) (hb : Below W.heap.size W W') : RnW w0 S prio many k c v lv n W' := by
  obtain ⟨X, T, h1, h2⟩ := h
  exact ⟨X, T, h1.below hb, h2⟩
theorem RnW.bel {w0 : World} {S : Nat → Prop} {prio : Int} {many k c : Nat} {v lv : Value} {n : Nat} {W : World} (h : RnW w0 S prio many k c v lv n W) : Below w0.heap.size w0 W := by
  obtain ⟨X, T, h1, h2⟩ := h
  exact h1.bel
theorem rn_create {w0 : World} {S : Nat → Prop} {prio : Int} {many k : Nat} {v lv : Value} {n : Nat} {W : World} (h : RnW w0 S prio many k 0 v lv n W) (hk : k < 16) (pr : Int) (hp : 0 ≤ pr ∧ pr ≤ 31) :
    Calls Try.prog 11 #[v, .int .i64 pr] W fun e W' => e = .returned (.tuple #[.int .i64 (mkH 3 k 1), .nilIface]) ∧ RnM w0 S prio many k pr v lv n W' := by
  obtain ⟨X, T, h1, h2⟩ := h
  refine (plcreate_some S X w0.heap.size (rA k) T (-1) h1.pi.good W v h1.pl h1.sx pr hp k (rA_free k hk)).mono ?_
  rintro e W' ⟨rfl, hp', hk'⟩
  rw [rA_add hk] at hp'
  refine ⟨by rw [rA_hd hk], X, T, h1.post ?_ hp' hk', h2⟩
  have := h1.pi.add pr
  unfold addA addT at this
  rw [if_pos hp, if_pos hp, rA_free k hk] at this
  dsimp only at this
  rwa [rA_add hk] at this
theorem rn_push {w0 : World} {S : Nat → Prop} {prio : Int} {many k : Nat} {pr : Int} {v lv : Value} {n : Nat} {W : World} (h : RnM w0 S prio many k pr v lv n W) (hk : k < 16) (hpr : 0 ≤ pr ∧ pr ≤ 31) (hp : pr = if k < many then prio else prio + 1) (len : Int) (hl : k < many → len = 1000) (hl2 : 1 ≤ len ∧ len ≤ 1000) :
    Calls Try.prog 18 #[v, .int .i64 (mkH 3 k 1), jV ⟨len, 0, 0, 0⟩, .int .i64 0] W fun e W' => e = .returned .nilIface ∧ RnW w0 S prio many (k + 1) 0 v lv n W' := by
  obtain ⟨X, T, h1, h2⟩ := h
  have hf := rA_find (k + 1) (by omega) k (by omega)
  have hJ : okJ ⟨len, 0, 0, 0⟩ := ⟨⟨hl2.1, by show len ≤ 1048576; omega⟩, ⟨Int.le_refl 0, show (0 : Int) ≤ 1048576 by decide⟩, ⟨Int.le_refl 0, show (0 : Int) ≤ 1073741824 by decide⟩, ⟨Int.le_refl 0, show (0 : Int) ≤ 1073741824 by decide⟩⟩
  have hE : pushE (tkN pr).p (tkN pr).n (tkN pr).f (tkN pr).k ⟨len, 0, 0, 0⟩ 0 = 0 := by
    unfold pushE
    rw [if_neg (fun x => x (tkN_ok hpr)), if_neg (fun x => x ⟨by decide, by decide⟩), if_neg (fun x => x hJ), if_neg (show ¬ (8 ≤ (0 : Nat)) from by decide)]
  have e1 : pushN (rA (k + 1)) (upd T k (tkN pr)) (mkH 3 k 1) ⟨len, 0, 0, 0⟩ 0 = 0 := by
    unfold pushN; rw [hf]; dsimp only; rw [upd_same]; exact hE
  have e2 : pushT (rA (k + 1)) (upd T k (tkN pr)) (mkH 3 k 1) ⟨len, 0, 0, 0⟩ 0 = upd (upd T k (tkN pr)) k (tkPush (tkN pr) sN ⟨len, 0, 0, 0⟩ 0) := by
    unfold pushT; rw [hf]; dsimp only; rw [upd_same, if_pos hE]
  have hpi := h1.pi.push (mkH 3 k 1) ⟨len, 0, 0, 0⟩ 0
  rw [e2] at hpi
  refine (plpush S X w0.heap.size (rA (k + 1)) _ (-1) h1.pi.good W v h1.pl h1.sx h1.xw (mkH 3 k 1) ⟨len, 0, 0, 0⟩ 0).mono ?_
  rintro e W' ⟨rfl, hp', hk'⟩
  rw [e2] at hp'
  exact ⟨by rw [e1]; rfl, X, _, h1.post hpi hp' hk', h2.add hp hl⟩
theorem PI.to {A : Tab} {T : Nat → Tk} {la : Int} (h3 : PI A T la) {i : Nat} (hi : i < 16) (hti : A.t i = true) : PI A T (i : Int) :=
  ⟨⟨h3.good.tab, h3.good.kind, h3.good.len, h3.good.ok, by omega, by omega⟩, h3.z, fun hh => by
    have e := hh.2.1
    rw [Int.toNat_natCast] at e
    have e2 : A.taken.getD i false = true := hti
    rw [e2] at e
    cases e⟩
theorem rn_give {w0 : World} {S : Nat → Prop} {prio : Int} {many c : Nat} {v lv : Value} {n : Nat} {W : World} (h : RnW w0 S prio many (many + 1) c v lv n W) (hm : 1 ≤ many ∧ many < 16) (hc : c < 900) :
    Calls Try.prog 14 #[v, .int .i64 (c : Int)] W fun e W' => e = .returned (.tuple #[.int .i64 (mkH 3 (c % many : Nat) 1), .int .i64 0, .int .i64 0, .bool true]) ∧ RnW w0 S prio many (many + 1) (c + 1) v lv n W' := by
  obtain ⟨X, T, h1, h2⟩ := h
  have hi := Nat.mod_lt c (show 0 < many by omega)
  have hnx := h2.nx hm
  obtain ⟨w1, w2, w3⟩ := h2.ways hm hi hc (h1.pi.good.ok _) c (by omega)
  have hpi := h1.pi.set (i := c % many) (rA_t (many + 1) (by omega) _ (by omega)) (x := tkRun (T (c % many)) sN c) (run_ok sN w1)
  have hpi2 := hpi.to (show c % many < 16 by omega) (rA_t (many + 1) (by omega) _ (by omega))
  rw [laC_next] at hpi2
  refine (plgive_yes S X w0.heap.size (rA (many + 1)) T (laC many c) h1.pi.good W v h1.pl h1.sx h1.xw c (c % many) hnx (by omega) (rA_t (many + 1) (by omega) _ (by omega)) w1).mono ?_
  rintro e W' ⟨rfl, hp', hk'⟩
  rw [laC_next] at hp'
  exact ⟨by rw [w2, w3, rA_hd (by omega)], X, _, h1.post hpi2 hp' hk', h2.give (by omega) hi hc c⟩
theorem rL_snoc (n : Nat) : ints (rL n) ++ [.int .i64 (mkH 3 n 1)] = ints (rL (n + 1)) := by
  unfold ints rL
  rw [List.range_succ]; simp
theorem keeps_grown2 {w w' : World} {row : Option Nat} (h : w.grownBy w' row) : Keeps (fun x => row = some x) w w' := ⟨h.os, h.tape, h.output, h.size, fun b hb hn => h.block b hb (fun e => hn e.symm)⟩
theorem RnW.app {w0 : World} {S : Nat → Prop} {prio : Int} {many k c n : Nat} {v lv lv' : Value} {W W1 W' : World} (h : RnW w0 S prio many k c v lv n W) (hb : Below W.heap.size W W1) (ho : W'.ownsRow w0.heap.size HTy 1 lv' (n + 1) (ints (rL (n + 1)))) (hg : W1.grownBy W' lv.ownBlock) (ha : ∀ g, lv'.ownBlock = some g → lv.ownBlock = some g ∨ W1.heap.size ≤ g) : RnW w0 S prio many k c v lv' (n + 1) W' := by
  obtain ⟨X, T, h1, h2⟩ := h
  have hkg : Keeps (fun x => lv.ownBlock = some x) W W' := (Keeps.of_below hb).trans (keeps_grown2 hg)
  have hs := hb.size
  have hs2 := hkg.size
  refine ⟨fun x => X x ∨ lv'.ownBlock = some x, T, ⟨h1.pi, (h1.pl.mono (fun x hx q => ?_)).keeps hkg (fun x hx e => h1.rs x e hx) (fun x e => .inl (h1.rx x e)), ho, fun x q => .inl (h1.sx x q), fun g e => .inr e, fun g e q => ?_, fun x q => ?_, below_keeps h1.bel hkg (fun x e => (World.ownsRow.lt h1.row x e).1)⟩, h2⟩
  · rcases q with q | q
    · exact q
    · rcases ha x q with e | e
      · exact h1.rx x e
      · omega
  · rcases ha g e with e2 | e2
    · exact h1.rs g e2 q
    · have := h1.xw g (h1.sx g q); omega
  · rcases q with q | q
    · exact Nat.lt_of_lt_of_le (h1.xw x q) hs2
    · exact (World.ownsRow.lt ho x q).2
end Go.Proofs.Ytedgchafligndaa
