/- A pool that is loaded, the program's and the document's, of tasks and of their copies; no condition but those that each row names. -/
import Derived.Test.YtedgchafligndaaGreatJKJCpy
namespace Go.Proofs.YtedgchafligndaaGreat
open Go.RowKit Tsk

def okL (gens : List Int) (taken : List Bool) (m : Nat) (TT : Nat → Tk) (last : Int) : Prop :=
  (gens.length = 16 ∧ -1 ≤ last ∧ last < 16) ∧ ((taken.length = gens.length ∧ standB gens taken gens.length) ∧ m = rank taken taken.length) ∧ (∀ j, j < m → okTk (TT j)) ∧ lastOk gens taken last
open Classical in
noncomputable def ldN (gens : List Int) (last : Int) : Int := if gens.length = 16 ∧ -1 ≤ last ∧ last < 16 then 270 else 1
theorem ldN_ne (gens : List Int) (last : Int) : ldN gens last ≠ 0 := by unfold ldN; split <;> decide
abbrev ldA (gens : List Int) (taken : List Bool) : Tab := loadTo 3 gens taken (List.replicate 16 0)
theorem okL.pi {gens : List Int} {taken : List Bool} {m : Nat} {TT : Nat → Tk} {last : Int} (h : okL gens taken m TT last) : PI (ldA gens taken) (fillT taken TT 16) last :=
  PI.load h.1 (by simp) h.2
section
variable {gens : List Int} {taken : List Bool} {m : Nat} {TT : Nat → Tk} {sr : Nat → Value} {last : Int} {v x y : Value} {w : World}
theorem ld_yes (hv : Lst (fun _ => False) w v (ints gens)) (hx : Lst (fun _ => False) w x (bools taken)) (hy : Tasks w y m (tm TT sr)) (hok : ∀ j, j < m → (TT j).k.c ≤ 9223372036854775807 ∧ (TT j).n * 32 ≤ 140737488355328) (h : okL gens taken m TT last) :
    Calls Tryz.prog 6 #[v, x, y, .int .i64 last] w (LoadPl w (ldA gens taken) (fillT taken TT 16) last) := by
  refine (plload gens taken m (tm TT sr) (List.replicate 16 0) last v x y w hv hx hy hok (by simp)).mono fun e w' hh => ?_
  rcases hh with ⟨h1, _⟩ | ⟨_, ⟨_, S, v', he, hX, hb⟩ | ⟨h1, _⟩⟩
  · exact absurd h.1 h1
  · obtain ⟨s2, e2⟩ := fill_tm taken TT sr
    exact ⟨S, v', he, fun X hx => Pl_tm (s := s2) (by rw [← e2]; exact hX X hx), hb⟩
  · exact absurd h.2 h1
theorem ld_no (hv : Lst (fun _ => False) w v (ints gens)) (hx : Lst (fun _ => False) w x (bools taken)) (hy : Tasks w y m (tm TT sr)) (hok : ∀ j, j < m → (TT j).k.c ≤ 9223372036854775807 ∧ (TT j).n * 32 ≤ 140737488355328) (h : ¬ okL gens taken m TT last) :
    Calls Tryz.prog 6 #[v, x, y, .int .i64 last] w fun e w' => e = .returned (.tuple #[.pointer none, errV (ldN gens last)]) ∧ Below w.heap.size w w' := by
  refine (plload gens taken m (tm TT sr) (List.replicate 16 0) last v x y w hv hx hy hok (by simp)).mono fun e w' hh => ?_
  rcases hh with ⟨h1, he, hb⟩ | ⟨h1, ⟨h2, _⟩ | ⟨_, he, hb⟩⟩
  · exact ⟨by rw [he]; unfold ldN; rw [if_neg h1], hb⟩
  · exact absurd ⟨h1, h2⟩ h
  · exact ⟨by rw [he]; unfold ldN; rw [if_pos h1], hb⟩
theorem rld_yes (hv : Lst (fun _ => False) w v (ints gens)) (hx : Lst (fun _ => False) w x (bools taken)) (hy : Tasks w y m TT) (h : okL gens taken m TT last) :
    Calls Tryz.prog 7 #[v, x, y, .int .i64 last] w fun e w' => ∃ gs ts ks sl, e = .returned (.tuple #[pv gs ts ks last, .int .i64 0]) ∧ Own14 w.heap.size w' gens taken (fillT taken TT 16) gs ts ks sl ∧ Below w.heap.size w w' := by
  refine (rload14 gens taken m TT last v x y w hv hx hy).mono fun e w' hh => ?_
  rcases hh with ⟨h1, _⟩ | ⟨_, ⟨_, h2⟩ | ⟨h1, _⟩⟩
  · exact absurd h.1 h1
  · exact h2
  · exact absurd h.2 h1
theorem rld_no (hv : Lst (fun _ => False) w v (ints gens)) (hx : Lst (fun _ => False) w x (bools taken)) (hy : Tasks w y m TT) (h : ¬ okL gens taken m TT last) :
    Calls Tryz.prog 7 #[v, x, y, .int .i64 last] w fun e w' => e = .returned (.tuple #[pZ, .int .i64 (ldN gens last)]) ∧ Below w.heap.size w w' := by
  refine (rload14 gens taken m TT last v x y w hv hx hy).mono fun e w' hh => ?_
  rcases hh with ⟨h1, he, hb⟩ | ⟨h1, ⟨h2, _⟩ | ⟨_, he, hb⟩⟩
  · exact ⟨by rw [he]; unfold ldN; rw [if_neg h1], hb⟩
  · exact absurd ⟨h1, h2⟩ h
  · exact ⟨by rw [he]; unfold ldN; rw [if_pos h1], hb⟩
end
theorem idxs_le2 (A : Tab) : A.idxs.length ≤ A.gens.length := by
  unfold Tab.idxs Tab.n
  have := List.length_filter_le A.t (List.range A.gens.length)
  simpa using this
/-- What the law's last loop carries. -/
def RunsW2 (w : World) (S : Nat → Prop) (R : Nat) (v : Value) (k : Nat) (wr : World) : Prop := ∃ X A T la gs ts ks wv L now, PlayR S X w.heap.size R wr A T la v gs ts ks wv L now ∧ L.length ≤ k + 16 ∧ Below w.heap.size w wr
theorem playL {S : Nat → Prop} {B R M : Nat} {w9 : World} {A : Tab} {T : Nat → Tk} {la : Int} {v gs ts ks wv : Value} {L : List Int} (hpi : PI A T la) (hp : Pl S (fun x => S x ∨ x = R ∨ wv.ownBlock = some x) B w9 A T la v) (hd : DP (fun x => S x ∨ x = R ∨ wv.ownBlock = some x) w9 A T gs ts ks) (hw : w9.ownsRow B HTy 1 wv L.length (ints L)) (hr : HasR w9 R gs ts ks la wv 0) (hSM : ∀ x, S x → x < M) (hMR : M ≤ R) (hMw : ∀ g, wv.ownBlock = some g → M ≤ g ∧ g ≠ R) :
    PlayR S (fun x => S x ∨ x = R ∨ wv.ownBlock = some x) B R w9 A T la v gs ts ks wv L 0 := by
  refine ⟨⟨hpi, hp, hd, hw, fun x q => .inl q, fun g e => .inr (.inr e), fun g e q => ?_, fun x q => ?_⟩, hr, .inr (.inl rfl), fun q => ?_, fun g e => (hMw g e).2⟩
  · have := hSM g q; have := (hMw g e).1; omega
  · rcases q with q | q | q
    · exact (hp.lt x q).2
    · rw [q]; exact has_lt hr
    · exact (World.ownsRow.lt hw x q).2
  · have := hSM R q; omega
section
variable {w w7 w8 : World} {S X0 : Nat → Prop} {B M : Nat} {A : Tab} {T : Nat → Tk} {la : Int} {v gs ts ks wv : Value}
theorem ldA_play (hpi : PI A T la) (hlen : A.all.length ≤ 16) (hp : Pl S X0 B w7 A T la v) (hX0 : ∀ x, S x → X0 x) (hd : DP (fun x => x < M) w7 A T gs ts ks) (hSM : ∀ x, S x → x < M) (hM : M ≤ w7.heap.size) (hwB : w.heap.size ≤ B) (hb0 : Below w.heap.size w w7) {C : Nat} (hb : Below w7.heap.size w7 w8) (hC : w7.heap.size ≤ C) (hw : w8.ownsRow C HTy 1 wv A.all.length (ints A.all)) :
    RunsW2 w S w8.heap.size v 0 (w8.alloc (.cells #[gs, ts, ks, .int .i64 la, wv, .int .i64 0] RT14)) := by
  have ha : Below w8.heap.size w8 (w8.alloc (.cells #[gs, ts, ks, .int .i64 la, wv, .int .i64 0] RT14)) := (Below.refl _ _).alloc (Nat.le_refl _) _
  have hbs := hb.size
  have h0 := hb0.size
  have hwl := fun g e => World.ownsRow.lt hw g e
  refine ⟨_, A, T, la, gs, ts, ks, wv, A.all, 0, playL (M := M) hpi ((((hp.mono fun x hx q => ?_).base hwB).below hb).below ha) (((hd.mono fun x hx q => ?_).below hb).below ha) (own_under (own_base2 hw (by omega)) ha) (hasR_new _ _ _ _ _ _ _) hSM (by omega) (fun g e => ?_), by omega, bnext (bnext hb0 hb) ha⟩
  · rcases q with q | q | q
    · exact hX0 x q
    · omega
    · have := hwl x q; omega
  · rcases q with q | q | q
    · exact hSM x q
    · omega
    · have := hwl x q; omega
  · have := hwl g e; omega
theorem ldB_play (hpi : PI A T la) (hlen : A.all.length ≤ 16) (hp : Pl S X0 B w7 A T la v) (hX0 : ∀ x, S x → X0 x) (hd : DP (fun x => x < M) w7 A T gs ts ks) (hSM : ∀ x, S x → x < M) (hM : M ≤ w7.heap.size) (hwB : w.heap.size ≤ B) (hb0 : Below w.heap.size w w7)
    (hb : Below (w7.alloc (.cells #[N0, N0, N0, .int .i64 0, N0, .int .i64 0] RT14)).drew.heap.size (w7.alloc (.cells #[N0, N0, N0, .int .i64 0, N0, .int .i64 0] RT14)).drew w8) (hw : w8.ownsRow (w7.alloc (.cells #[N0, N0, N0, .int .i64 0, N0, .int .i64 0] RT14)).drew.heap.size HTy 1 wv A.all.length (ints A.all)) :
    RunsW2 w S w7.heap.size v 0 (st6 w8 w7.heap.size gs ts ks (.int .i64 la) wv (.int .i64 0)) := by
  have hb1 : Below w7.heap.size w7 (w7.alloc (.cells #[N0, N0, N0, .int .i64 0, N0, .int .i64 0] RT14)).drew := ((Below.refl _ _).alloc (Nat.le_refl _) _).drew
  have hsz : (w7.alloc (.cells #[N0, N0, N0, .int .i64 0, N0, .int .i64 0] RT14)).drew.heap.size = w7.heap.size + 1 := by simp [World.drew]
  have h78 := bnext hb1 hb
  have h0 := hb0.size
  rw [hsz] at hw
  have hwl := fun g e => World.ownsRow.lt hw g e
  have hh : HasR w8 w7.heap.size N0 N0 N0 0 N0 0 := HasR.below (has_drew (hasR_new w7 N0 N0 N0 0 N0 0)) hb
  have k6 := keeps_st6 (R := fun x => x = w7.heap.size) (Keeps.refl _ w8) (.inl rfl) gs ts ks (.int .i64 la) wv (.int .i64 0)
  refine ⟨_, A, T, la, gs, ts, ks, wv, A.all, 0, playL (M := M) hpi ((((hp.mono fun x hx q => ?_).base hwB).below h78).keeps k6 (fun x q e => by have := hSM x q; omega) (fun x e => .inr (.inl e))) (((hd.mono fun x hx q => ?_).below h78).keeps (k6.mono (fun x e => .inr (.inl e)))) (own_keep (own_base2 hw (by omega)) k6 (fun g e q => by have := hwl g e; omega)) hh.set6 hSM hM (fun g e => ?_), by omega, below_keeps (bnext hb0 h78) k6 (fun x e => by omega)⟩
  · rcases q with q | q | q
    · exact hX0 x q
    · omega
    · have := hwl x q; omega
  · rcases q with q | q | q
    · exact hSM x q
    · omega
    · have := hwl x q; omega
  · have := hwl g e; omega
end
end Go.Proofs.YtedgchafligndaaGreat
