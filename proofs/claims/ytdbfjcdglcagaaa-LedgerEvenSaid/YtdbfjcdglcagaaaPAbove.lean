/- The program's book gone over: is an account open below one? No condition but those that each row names. -/
import Derived.Test.YtdbfjcdglcagaaaPLoad
namespace Go.Proofs.Ytdbfjcdglcagaaa
open Go.RowKit Go.Maps Bk

/-- A step of the loop over the pages: a line that is still to come. -/
theorem wpList_pnext {w : World} {ops : Array Oper} {rest : List Oper} {o : Oper} {a : Act} {Q : Exit → Act → World → Prop} (hg : o.guard = none) (it : Operand) (hop : o.op = Op.next it false) (b r : Nat) (L : List Ln) (lf : Int → Bool) (cnt : Nat)
    (hit : a.eval it = .pointer (some ⟨r, 0, none⟩)) (h : VRange Try.prog HT w b r (FL L) lf cnt)
    (hDone : (∀ x, I64 x → lf x = false) → wpList Try.prog ops Q rest (a.put o.dst (.tuple #[.bool false])) w)
    (hMore : ∀ (y : Ln) (w' : World) (cnt' : Nat), I64 y.h → getB L y.h = some y → lf y.h = true → VRange Try.prog HT w' b r (FL L) (fun z => lf z && !decide (z = y.h)) cnt' → cnt' < cnt → w.grownBy w' (some r) → w'.heap.size = w.heap.size →
      (Instr.entry (.pointer (some ⟨r, 0, none⟩))).run Try.prog w' = .ok (.tuple #[.int .i64 y.h, pV y]) w' → wpList Try.prog ops Q rest (a.put o.dst (.tuple #[.bool true, .int .i64 y.h, pV y])) w') : wpList Try.prog ops Q (o :: rest) a w :=
  wpList_vnext hg it hop HT keyH Try.underlying25 b r (FL L) lf cnt hit h hDone (fun x v w' cnt' hx hl hF hr hlt hg' hsz hen => by
    unfold FL at hF
    cases hy : getB L x with
    | none => rw [hy] at hF; cases hF
    | some y =>
      rw [hy] at hF
      cases hF
      obtain ⟨rfl, hm⟩ := get_some hy
      exact hMore y w' cnt' hx hy hl hr hlt hg' hsz hen)
theorem isSome_FL {L : List Ln} {x : Int} : (FL L x).isSome = (getB L x).isSome := by unfold FL; cases getB L x <;> rfl

set_option maxHeartbeats 2000000 in
set_option maxRecDepth 100000 in
theorem pabove (w : World) (b mb : Nat) (L : List Ln) (h : PBk w b mb L) (hn : Nd L) (hwf : ∀ x ∈ L, I64 x.h) (k : Int) :
    Calls Try.prog 14 #[.pointer (some ⟨b, 0, none⟩), .int .i64 k] w fun e w' => e = .returned (.bool (belowB L k)) ∧ Below w.heap.size w w' := by
  have hlt := h.lt
  have hw := has_cell h.blk 0
  simp only [List.getElem?_toArray, List.getElem?_cons_zero] at hw
  have HM := Lib.hid h.map
  have HN := Lib.hid hn
  have HWF := Lib.hid hwf
  clear h hn hwf
  go_enter Try.func14, Try.ntmps14
  go_wp2_with (at_range; refine wpList_vrange rfl _ _ rfl _ _ keyH Try.underlying44 Try.underlying25 mb L.length (FL L) rfl HM.out ?_; intro w0 hr0 hg0 hs0)
  go_frame
  go_loopw [6] (fun _ wr => ∃ (lf : Int → Bool) (cnt : Nat), VRange Try.prog HT wr mb w.heap.size (FL L) lf cnt ∧ Hid (∀ x ∈ L, lf x.h = false → x.p ≠ k) ∧ Hid (Below w.heap.size w wr)) (fun _ wr => wr.rangeLeft mb w.heap.size)
  case atStart =>
    refine ⟨_, _, hr0, Lib.hid (fun x hx hf => ?_), Lib.hid (below_of_grown hg0)⟩
    rw [isSome_FL, get_mem HN.out hx] at hf
    cases hf
  case round =>
    obtain ⟨lf, cnt, hr, HL, HB⟩ := hrel
    clear hr0 hg0 hs0
    go_wp2_with (at_next; refine wpList_pnext rfl _ rfl mb w.heap.size L _ _ rfl hr ?_ ?_)
    · intro hl0
      have HF := Lib.hid (show belowB L k = false from by
        unfold belowB
        rw [List.any_eq_false]
        intro x hx
        simpa using HL.out x hx (hl0 _ (HWF.out x hx)))
      clear hl0
      go_wp2_with fail
      go_ret
      exact ⟨ret_bool HF.out.symm, HB.out⟩
    · intro y w1 cnt1 hy64 hy hly hr1 hlt1 hg1 hs1 hen
      have HB1 := Lib.hid (HB.out.grown hg1 HB.out.size (fun j e => by cases e; exact Nat.le_refl _))
      have HR1 := Lib.hid (hr1.alloc (.cells #[.int .i64 y.p, .int .i64 y.a.g, .int .i64 y.a.o, .int .i64 y.a.l, .int .i64 y.a.d, .int .i64 y.a.c, .int .i64 y.a.t, .int .i64 y.c.g, .int .i64 y.c.o, .int .i64 y.c.l, .int .i64 y.c.d, .int .i64 y.c.c, .int .i64 y.c.t] 43))
      have HY := Lib.hid hy
      by_cases hp : y.p = k
      · have z : (y.p == k) = true := by simpa using hp
        have HF := Lib.hid (show belowB L k = true from List.any_eq_true.2 ⟨y, (get_some hy).2, by simpa using hp⟩)
        clear hr1 hr hlt1 hg1 hy hly hp HL
        go_wp2_with fail
        go_ret
        exact ⟨ret_bool HF.out.symm, below_alloc HB1.out _⟩
      · have z : (y.p == k) = false := by simpa using hp
        have HL' := Lib.hid (show ∀ x ∈ L, (lf x.h && !decide (x.h = y.h)) = false → x.p ≠ k from fun x hx hf => by
          by_cases e : x.h = y.h
          · have := get_mem HN.out hx
            rw [e, hy] at this
            cases this
            exact hp
          · exact HL.out x hx (by simpa [e] using hf))
        have hm := hr.left_eq
        have hm1 := HR1.out.left_eq
        clear hr1 hr hg1 hy hly hp HL
        go_wp2_with fail
        go_roundw
        case rel => exact ⟨_, cnt1, HR1.out, HL', Lib.hid (below_alloc HB1.out _)⟩
        case measure => rw [hm, hm1]; exact hlt1
end Go.Proofs.Ytdbfjcdglcagaaa
