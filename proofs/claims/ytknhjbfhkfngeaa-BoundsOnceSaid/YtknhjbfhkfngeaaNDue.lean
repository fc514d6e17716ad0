/- The program's Due; no condition but those that each row names. -/
import Derived.Test.YtknhjbfhkfngeaaNCal
import Derived.Test.YtknhjbfhkfngeaaNIds
namespace Go.Proofs.Ytknhjbfhkfngeaa
open Go.RowKit Go.Maps Hp Cal

/-- How long a slice is. -/
def lenOf : Value → Nat
  | .slice _ n _ => n
  | _ => 0
section
variable {B : Nat} {S : Nat → Prop} {w w' : World} {L : List Pr} {c : Nat}
theorem CalR.keeps {Q : Nat → Prop} (h : CalR B S w L c) (hk : Keeps Q w w') (hd : ∀ x, S x → ¬ Q x) : CalR B S w' L c := by
  obtain ⟨h0, S0, hb, hB, hh, hn, hS⟩ := h
  exact ⟨h0, S0, (hk.block c (Array.getElem?_eq_some_iff.1 hb).1 (hd c ((hS c).2 (.inl rfl)))).trans hb, hB, hh.keeps hk (fun x hx => hd x ((hS x).2 (.inr hx))), hn, hS⟩
/-- A row elsewhere grows. -/
theorem GoneC.grown {R : List Pr} {w1 w2 : World} {r : Option Nat} (h : GoneC B S w R c w1) (g : w1.grownBy w2 r) (hS : ∀ x, S x → x < w.heap.size) (hr : ∀ k, r = some k → w.heap.size ≤ k) : GoneC B S w R c w2 :=
  ⟨h.1.keeps (Q := fun x => r = some x) ((Keeps.refl _ w1).grown g (fun _ e => .inl e)) (fun x hx e => by have := hS x hx; have := hr x e; omega), h.2.grown g (fun k e => .inr (hr k e))⟩
/-- Pop, where something is next. -/
theorem GoneC.pop {w1 : World} {x : Pr} {r : List Pr} {h0 : Nat} {S0 : Nat → Prop} (hc : GoneC B S w (x :: r) c w1)
    (hb : w1.heap[c]? = some (.cells #[.pointer (some ⟨h0, 0, none⟩)] CT (0, 0))) (hB : B ≤ c) (hn : ¬ S0 c) (hS : ∀ x, S x ↔ x = c ∨ S0 x)
    (hg : Gone kc_I enc_I HT_I NT_I B S0 w1 r h0 w') : GoneC B S w r c w' := ⟨(CalR.gone hb hB hn hS hg).1, hc.2.trans (CalR.gone hb hB hn hS hg).2⟩
/-- What the loop of Due carries. -/
def DueL (w : World) (S : Nat → Prop) (B : Nat) (L : List Pr) (c k : Nat) (v : Value) (wr : World) : Prop := GoneC B S w (L.drop k) c wr ∧ NumR w.heap.size wr v L k
theorem GoneC.base {R : List Pr} {w1 : World} (h : GoneC B S w R c w1) (hb : Below w1.heap.size w1 w') : GoneC B S w R c w' := ⟨h.1.below hb, h.2.trans (Keeps.of_below hb)⟩
theorem GoneC.size {R : List Pr} {w1 : World} (h : GoneC B S w R c w1) : w.heap.size ≤ w1.heap.size := h.2.size
theorem DueL.below {k : Nat} {v : Value} {w1 : World} (h : DueL w S B L c k v w1) (hb : Below w1.heap.size w1 w') : DueL w S B L c k v w' := ⟨h.1.base hb, own_under h.2 hb⟩
theorem DueL.pop (hS : ∀ x, S x → x < w.heap.size) {k : Nat} {v : Value} {w1 w2 : World} (h : DueL w S B L c k v w1) (hg : GoneC B S w1 (L.drop (k + 1)) c w2) : GoneC B S w (L.drop (k + 1)) c w2 ∧ NumR w.heap.size w2 v L k :=
  ⟨⟨hg.1, h.1.2.trans hg.2⟩, own_keep h.2 hg.2 fun b e hs => by have := (World.ownsRow.lt h.2 b e).1; have := hS b hs; omega⟩
theorem cpop (h : CalR B S w L c) (hg : Cal.Good L) {x : Pr} {r : List Pr} (e : L = x :: r) :
    ∃ h0, w.cell? ⟨c, 0, none⟩ = some (.pointer (some ⟨h0, 0, none⟩)) ∧ Calls Try.prog 14 #[.pointer (some ⟨h0, 0, none⟩)] w fun e w' => e = .returned (.tuple #[.int .i64 x.1, .int .i64 x.2, .bool true]) ∧ GoneC B S w r c w' := by
  subst e
  obtain ⟨h0, S0, hb, hB, hh, hn, hS⟩ := h
  exact ⟨h0, by rw [cell_of_row _ _ _ _ _ _ hb]; rfl, (pop_I hh x r (good_mn hg) (List.Perm.refl _)).mono fun e w' ⟨he, hgo⟩ => ⟨he, CalR.gone hb hB hn hS hgo⟩⟩
set_option maxHeartbeats 2000000 in
set_option maxRecDepth 100000 in
theorem cdue_any (h : CalR B S w L c) (hg : Cal.Good L) (h4 : L.length ≤ 4096) (till : Int) :
    Calls Try.prog 6 #[.pointer (some ⟨c, 0, none⟩), .int .i64 till] w fun e w' => ∃ v, e = .returned v ∧ NumR w.heap.size w' v L (dueN till L) ∧ GoneC B S w (L.drop (dueN till L)) c w' := by
  have hSl := Lib.hid (show ∀ x, S x → x < w.heap.size from fun x hx => (h.lt x hx).2)
  have HG := Lib.hid hg
  have H0 := Lib.hid (show DueL w S B L c 0 (.slice none 0 0) w from ⟨by rw [List.drop_zero]; exact GoneC.of_below h (Below.refl _ _), World.ownsRow_nil _ _ _ _⟩)
  obtain ⟨K, hK⟩ : ∃ K, K = dueN till L := ⟨_, rfl⟩
  have HK := Lib.hid hK
  rw [← hK]
  have hNX := Lib.hid (show ∀ k v w1, DueL w S B L c k v w1 → Calls Try.prog 7 #[.pointer (some ⟨c, 0, none⟩)] w1 fun e w' => e = .returned (.tuple #[.int .i64 (nxV (L.drop k)), .bool (nxB (L.drop k))]) ∧ DueL w S B L c k v w' from fun k v w1 hd =>
    (cnext_any hd.1.1 (drop_good HG.out k)).mono fun e w' ⟨he, hb⟩ => ⟨he, hd.below hb⟩)
  clear h hg hK
  go_enter Try.func6, Try.ntmps6
  go_wp2_with fail
  refine (hNX.out 0 _ w H0.out).mono ?_
  rintro e w1 ⟨rfl, hd⟩
  have HD := Lib.hid hd
  clear hd H0
  go_wp2_with fail
  go_loopw [5, 6, 7] (fun iv av tv wr => ∃ (k : Nat) (p : Option Addr) (cp : Nat), k ≤ K ∧ iv = .slice p k cp ∧ av = .int .i64 (nxV (L.drop k)) ∧ tv = .bool (nxB (L.drop k)) ∧ Hid (DueL w S B L c k (.slice p k cp) wr)) (fun iv _ _ _ => L.length - lenOf iv)
  case atStart => exact ⟨0, none, 0, Nat.zero_le _, rfl, rfl, rfl, HD⟩
  case round =>
    obtain ⟨k, p, cp, hk, rfl, rfl, rfl, HL⟩ := hrel
    clear HD
    by_cases hkK : k < K
    · obtain ⟨hkl, hle⟩ := due_at (t := till) (L := L) (k := k) (by rw [← HK.out]; exact hkK)
      have hd := List.drop_eq_getElem_cons hkl
      obtain ⟨h0, f0, HP⟩ := cpop HL.out.1.1 (drop_good HG.out k) hd
      have HI := Lib.hid (idsL_succ hkl)
      have e1 : nxV (L.drop k) = L[k].2 := by rw [hd]; rfl
      have e2 : nxB (L.drop k) = true := by rw [hd]; rfl
      rw [e1, e2]
      generalize L[k] = x at *
      obtain ⟨xi, xa⟩ := x
      have hle2 : xa ≤ till := hle
      have HP := Lib.hid HP
      clear hd e1 e2 hle
      go_wp2_with fail
      refine HP.out.mono ?_
      rintro e w2 ⟨rfl, hg2⟩
      have HD2 := Lib.hid (DueL.pop hSl.out HL.out hg2)
      clear hg2 f0
      have HB2 := Lib.hid (show w.heap.size ≤ w2.heap.size from HD2.out.1.size)
      have HNA := Lib.hid (own_under HD2.out.2 ((Below.refl w2.heap.size w2).alloc (Nat.le_refl _) (.cells #[.int .i64 xi] 3)))
      have HGA := Lib.hid (HD2.out.1.base ((Below.refl w2.heap.size w2).alloc (Nat.le_refl _) (.cells #[.int .i64 xi] 3)))
      go_wp2_with (at_builtin; refine wpList_append_ints rfl _ _ rfl w.heap.size _ k (idsL L k) rfl HNA.out _ 1 [.int .i64 xi] rfl (src_int w2 xi 3) (by intro u hu; simp at hu; subst hu; rfl) (by omega) (by have := HB2.out; simp; omega) ?_)
      intro p3 c3 w3 hown hgrow hat
      have HD3 := Lib.hid (show DueL w S B L c (k + 1) (.slice p3 (k + 1) c3) w3 from by
        refine ⟨HGA.out.grown hgrow hSl.out (fun g e => (World.ownsRow.lt HNA.out g e).1), ?_⟩
        · unfold NumR
          rw [HI.out]
          exact hown)
      clear hown hgrow hat
      go_wp2_with fail
      refine (hNX.out (k + 1) _ w3 HD3.out).mono ?_
      rintro e w4 ⟨rfl, hd4⟩
      have HD4 := Lib.hid hd4
      clear hd4
      go_wp2_with fail
      go_roundw
      case rel => exact ⟨k + 1, p3, c3, hkK, rfl, rfl, rfl, HD4⟩
      case measure => simp [lenOf]; omega
    · obtain rfl : k = K := by omega
      have HE := Lib.hid HL.out
      rcases due_end HK.out with h1 | h1
      · rw [h1]
        generalize nxV (L.drop k) = y at *
        clear hkK h1
        go_wp2_with fail
        go_ret
        exact ⟨_, rfl, HE.out.2, HE.out.1⟩
      · have h2 : decide (nxV (L.drop k) ≤ till) = false := decide_eq_false h1
        generalize nxV (L.drop k) = y at *
        generalize nxB (L.drop k) = z at *
        clear hkK h1
        cases z
        · go_wp2_with fail
          go_ret
          exact ⟨_, rfl, HE.out.2, HE.out.1⟩
        · go_wp2_with fail
          go_ret
          exact ⟨_, rfl, HE.out.2, HE.out.1⟩
end
end Go.Proofs.Ytknhjbfhkfngeaa
