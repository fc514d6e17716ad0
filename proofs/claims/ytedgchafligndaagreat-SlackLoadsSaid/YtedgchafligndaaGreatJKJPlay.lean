/- The laws' own do at any act; a pool under way whose Run lies in a block of its own; no condition but those that each row names. -/
import Derived.Test.YtedgchafligndaaGreatJKJDoR
import Derived.Test.YtedgchafligndaaGreatJKJDoP
import Derived.Test.YtedgchafligndaaGreatJKJDoO
import Derived.Test.YtedgchafligndaaGreatJKJDoG
import Derived.Test.YtedgchafligndaaGreatJKJDoC
namespace Go.Proofs.YtedgchafligndaaGreat
open Go.RowKit Tsk

theorem do_any (S X : Nat → Prop) (B : Nat) (A : Tab) (T : Nat → Tk) (la now k i p l c a d : Int) (v gs ts ks wv : Value) (L : List Int) (w : World) (hin : Ro S X B w A T la v gs ts ks wv L) (hL : L.length ≤ 4000) :
    Calls Tryz.prog 12 #[runv gs ts ks la wv now, v, av7 k i p l c a d] w (DoPost S X B w v wv L) := by
  obtain ⟨h0, h7⟩ := kd_in k
  rcases (show kd k = 0 ∨ kd k = 1 ∨ kd k = 2 ∨ kd k = 3 ∨ kd k = 4 ∨ kd k = 5 ∨ kd k = 6 by omega) with h | h | h | h | h | h | h
  · exact do_cre S X B A T la now k i p l c a d v gs ts ks wv L w hin hL h
  · exact do_rem S X B A T la now k i p l c a d v gs ts ks wv L w hin hL h
  · exact do_psh2 S X B A T la now k i p l c a d v gs ts ks wv L w hin hL h
  · exact do_psh3 S X B A T la now k i p l c a d v gs ts ks wv L w hin hL h
  · exact do_oof S X B A T la now k i p l c a d v gs ts ks wv L w hin hL h
  · exact do_giv5 S X B A T la now k i p l c a d v gs ts ks wv L w hin hL h
  · exact do_giv6 S X B A T la now k i p l c a d v gs ts ks wv L w hin hL h
/-- A pool under way, its Run in block R. -/
structure PlayR (S X : Nat → Prop) (B R : Nat) (wr : World) (A : Tab) (T : Nat → Tk) (la : Int) (v gs ts ks wv : Value) (L : List Int) (now : Int) : Prop where
  ro : Ro S X B wr A T la v gs ts ks wv L
  hr : HasR wr R gs ts ks la wv now
  rx : X R
  rs : ¬ S R
  rw : ∀ g, wv.ownBlock = some g → g ≠ R
theorem PlayR.below {S X : Nat → Prop} {B R : Nat} {wr W : World} {A : Tab} {T : Nat → Tk} {la : Int} {v gs ts ks wv : Value} {L : List Int} {now : Int} (h : PlayR S X B R wr A T la v gs ts ks wv L now) (hb : Below wr.heap.size wr W) : PlayR S X B R W A T la v gs ts ks wv L now :=
  ⟨h.ro.below hb, h.hr.below hb, h.rx, h.rs, h.rw⟩
/-- Nothing of it in the block that was laid next either. -/
theorem PlayR.in2 {S X : Nat → Prop} {B R : Nat} {wr W : World} {A : Tab} {T : Nat → Tk} {la : Int} {v gs ts ks wv : Value} {L : List Int} {now : Int} (h : PlayR S X B R wr A T la v gs ts ks wv L now) (hb : Below wr.heap.size wr W) (hw : wr.heap.size < W.heap.size) : Ro S (fun x => X x ∨ x = wr.heap.size) B W A T la v gs ts ks wv L :=
  h.ro.wide (fun x hx q => by rcases q with q | q; exact q; omega) (fun x q => .inl q) hb (fun x q => by rcases q with q | q; exact Nat.lt_of_lt_of_le (h.ro.xw x q) hb.size; omega)
/-- Behind a do, its answer in a block bx. -/
structure CutR (S X : Nat → Prop) (B R : Nat) (wr : World) (v wv0 : Value) (m : Nat) (A : Tab) (T : Nat → Tk) (la : Int) (gs ts ks wv : Value) (L : List Int) (now : Int) (bx : Nat) (wx : World) : Prop where
  ro : Ro S X B wx A T la v gs ts ks wv L
  hx : HasR wx bx gs ts ks la wv now
  hr : ∃ gs0 ts0 ks0 la0 wv1 now0, HasR wx R gs0 ts0 ks0 la0 wv1 now0
  rx : X R
  rs : ¬ S R
  rw : ∀ g, wv.ownBlock = some g → g ≠ R
  ro0 : ∀ g, wv.ownBlock = some g → wv0.ownBlock = some g ∨ wr.heap.size ≤ g
  ne : R < bx
  len : L.length ≤ m + 1
  kp : Keeps (fun x => S x ∨ wv0.ownBlock = some x) wr wx
theorem PlayR.cutA {S X X' : Nat → Prop} {B R : Nat} {wr w2 : World} {A A' : Tab} {T T' : Nat → Tk} {la la' : Int} {v gs ts ks wv gs' ts' ks' wv' : Value} {L L' : List Int} {now now' : Int} (h : PlayR S X B R wr A T la v gs ts ks wv L now) (hr : Ro S X' B w2 A' T' la' v gs' ts' ks' wv' L') (hl : L'.length ≤ L.length + 1) (hX : ∀ x, X x → X' x)
    (hw : ∀ g, wv'.ownBlock = some g → wv.ownBlock = some g ∨ wr.drew.heap.size ≤ g) (hk : Keeps (fun x => S x ∨ wv.ownBlock = some x) wr.drew w2) :
    CutR S X' B R wr v wv L.length A' T' la' gs' ts' ks' wv' L' now' w2.heap.size (w2.alloc (.cells #[gs', ts', ks', .int .i64 la', wv', .int .i64 now'] RT14)) := by
  have ha : Below w2.heap.size w2 (w2.alloc (.cells #[gs', ts', ks', .int .i64 la', wv', .int .i64 now'] RT14)) := (Below.refl _ _).alloc (Nat.le_refl _) _
  have hn : ¬ (S R ∨ wv.ownBlock = some R) := by
    rintro (q | q)
    · exact h.rs q
    · exact h.rw R q rfl
  have h2 : HasR w2 R gs ts ks la wv now := has_keeps (h.hr.below below_drewOne) hk hn
  have hlt := has_lt h.hr
  exact ⟨hr.below ha, hasR_new _ _ _ _ _ _ _, ⟨_, _, _, _, _, _, h2.below ha⟩, hX R h.rx, h.rs, fun g e => by
    rcases hw g e with q | q
    · exact h.rw g q
    · simp only [World.drew] at q; omega, hw, has_lt h2, hl, ((Keeps.of_below below_drewOne).trans hk).trans (Keeps.of_below ha)⟩
theorem PlayR.cutB {S X X' : Nat → Prop} {B R : Nat} {wr w2 : World} {A A' : Tab} {T T' : Nat → Tk} {la la' : Int} {v gs ts ks wv gs' ts' ks' wv' : Value} {L L' : List Int} {now now' : Int} (h : PlayR S X B R wr A T la v gs ts ks wv L now) (hr : Ro S X' B w2 A' T' la' v gs' ts' ks' wv' L') (hl : L'.length ≤ L.length + 1) (hX : ∀ x, (X x ∨ x = wr.heap.size) → X' x)
    (hw : ∀ g, wv'.ownBlock = some g → wv.ownBlock = some g ∨ (wr.alloc (.cells #[N0, N0, N0, .int .i64 0, N0, .int .i64 0] RT14)).drew.heap.size ≤ g) (hk : Keeps (fun x => S x ∨ wv.ownBlock = some x) (wr.alloc (.cells #[N0, N0, N0, .int .i64 0, N0, .int .i64 0] RT14)).drew w2) :
    CutR S X' B R wr v wv L.length A' T' la' gs' ts' ks' wv' L' now' wr.heap.size (st6 w2 wr.heap.size gs' ts' ks' (.int .i64 la') wv' (.int .i64 now')) := by
  have hb : Below wr.heap.size wr (wr.alloc (.cells #[N0, N0, N0, .int .i64 0, N0, .int .i64 0] RT14)).drew := ((Below.refl _ _).alloc (Nat.le_refl _) _).drew
  have hlt := has_lt h.hr
  have hsz : (wr.alloc (.cells #[N0, N0, N0, .int .i64 0, N0, .int .i64 0] RT14)).drew.heap.size = wr.heap.size + 1 := by simp [World.drew]
  have hS : ∀ x, S x → x < wr.heap.size := fun x q => (h.ro.pl.lt x q).2
  have hR0 : ∀ g, wv.ownBlock = some g → g < wr.heap.size := fun g e => h.ro.xw g (h.ro.rx g e)
  have hn : ¬ (S R ∨ wv.ownBlock = some R) := by
    rintro (q | q)
    · exact h.rs q
    · exact h.rw R q rfl
  have hn2 : ¬ (S wr.heap.size ∨ wv.ownBlock = some wr.heap.size) := by
    rintro (q | q)
    · have := hS _ q; omega
    · have := hR0 _ q; omega
  have h2 : HasR w2 R gs ts ks la wv now := has_keeps (h.hr.below hb) hk hn
  have h3 : HasR w2 wr.heap.size N0 N0 N0 0 N0 0 := has_keeps (has_drew (hasR_new wr N0 N0 N0 0 N0 0)) hk hn2
  have k6 := keeps_st6 (R := fun x => x = wr.heap.size) (Keeps.refl _ w2) (.inl rfl) gs' ts' ks' (.int .i64 la') wv' (.int .i64 now')
  have hw2 : ∀ g, wv'.ownBlock = some g → g ≠ wr.heap.size ∧ g ≠ R := fun g e => by
    rcases hw g e with q | q
    · exact ⟨by have := hR0 g q; omega, h.rw g q⟩
    · rw [hsz] at q; exact ⟨by omega, by omega⟩
  exact ⟨hr.keeps k6 (fun x e => hX x (.inr e)) (fun x q e => by have := hS x q; omega) (fun g e q => (hw2 g e).1 q), h3.set6, ⟨_, _, _, _, _, _, has_keeps h2 k6 (by omega)⟩, hX R (.inl h.rx), h.rs, fun g e => (hw2 g e).2, fun g e => by
    rcases hw g e with q | q
    · exact .inl q
    · rw [hsz] at q; exact .inr (by omega), hlt, hl, keeps_st6 ((Keeps.of_below hb).trans hk) (.inr (Nat.le_refl _)) _ _ _ _ _ _⟩
/-- The answer laid at R. -/
theorem CutR.turn {S X : Nat → Prop} {B R : Nat} {wr wx : World} {A : Tab} {T : Nat → Tk} {la : Int} {v wv0 gs ts ks wv : Value} {m : Nat} {L : List Int} {now : Int} {bx : Nat} (c : CutR S X B R wr v wv0 m A T la gs ts ks wv L now bx wx) :
    PlayR S X B R (st6 wx R gs ts ks (.int .i64 la) wv (.int .i64 now)) A T la v gs ts ks wv L now ∧ Keeps (fun x => (S x ∨ wv0.ownBlock = some x) ∨ x = R) wr (st6 wx R gs ts ks (.int .i64 la) wv (.int .i64 now)) := by
  have k6 := keeps_st6 (R := fun x => x = R) (Keeps.refl _ wx) (.inl rfl) gs ts ks (.int .i64 la) wv (.int .i64 now)
  obtain ⟨_, _, _, _, _, _, hr⟩ := c.hr
  exact ⟨⟨c.ro.keeps k6 (fun x e => e ▸ c.rx) (fun x q e => c.rs (e ▸ q)) (fun g e q => c.rw g e q), hr.set6, c.rx, c.rs, c.rw⟩, (c.kp.mono (fun x q => .inl q)).trans (k6.mono (fun x q => .inr q))⟩
end Go.Proofs.YtedgchafligndaaGreat
