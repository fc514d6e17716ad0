/- Three rows of the call's own beside each other in the document's Plan: what is left, the plan so far, the children; nothing of the program is walked; no condition but those that each row names. -/
import Derived.Test.YtfahpjilgdlhiaaWApp
namespace Go.Proofs.Ytfahpjilgdlhiaa
open Go.RowKit Edf

abbrev ChR : TypeId := 26
theorem Try.infCR : (Try.prog.info? ChR).map (fun i => (i.zero, i.size, i.bytes)) = some (some (.agg #[.int .i64 0, .int .i64 0, .int .i64 0]), 3, 24) := by kernel_rfl
/-- What is appended: m children, their cells. -/
def Src3 (w : World) (u : Value) (m : Nat) (ys : List Value) : Prop := ∃ p cap, u = .slice p m cap ∧ ys.length = m * 3 ∧ ∀ j y, ys[j]? = some y → ∃ b off, p = some ⟨b, off, none⟩ ∧ w.cell? ⟨b, off + j, none⟩ = some y
theorem run_append_ch (w : World) (ty : TypeId) (base : Nat) (v : Value) (n : Nat) (xs : List Value) (hown : w.ownsRow base ChR 3 v n xs) (u : Value) (m : Nat) (ys : List Value) (hu : Src3 w u m ys) (h1 : ∀ u ∈ ys, u.oneCell' = true) (hm : (n + m) * 24 ≤ 140737488355328) (hbase : base ≤ w.heap.size) :
    ∃ p cap w', (Builtin.append_ #[22, 22] ty #[v, u]).run Try.prog w = .ok (.slice p (n + m) cap) w' ∧ w'.ownsRow base ChR 3 (.slice p (n + m) cap) (n + m) (xs ++ ys) ∧ w.grownBy w' v.ownBlock ∧
      (∀ g, (Value.slice p (n + m) cap).ownBlock = some g → v.ownBlock = some g ∨ w.heap.size ≤ g) := by
  obtain ⟨i0, hi, hz0, hz1, hz2⟩ := info_parts Try.infCR
  obtain ⟨p, cap, rfl, hl, hc⟩ := hu
  cases m with
  | zero =>
    obtain rfl : ys = [] := List.eq_nil_of_length_eq_zero (by omega)
    obtain ⟨p', cap', rfl, hle⟩ := own_small hown
    refine ⟨p', cap', w, ?_, by simpa using hown, ⟨rfl, rfl, rfl, Nat.le_refl _, fun _ _ _ => rfl⟩, fun g e => .inl e⟩
    refine run_append_nothing w 22 22 ty ChR i0 Try.underlying22 hi p' n cap' hle _ ?_
    cases p with
    | none => exact Src.ofNil w Try.underlying22 cap
    | some a => exact Src.ofSlice w Try.underlying22 a 0 cap [] (by simp) (fun j u hj => by simp at hj) (fun u hu => by simp at hu)
  | succ m =>
    obtain ⟨y, hy⟩ : ∃ y, ys[0]? = some y := ⟨_, List.getElem?_eq_getElem (by omega)⟩
    obtain ⟨b, off, rfl, _⟩ := hc 0 y hy
    obtain ⟨g, cap', w', hr, ho, hg, hat, hlt⟩ := run_append_lies (P := Try.prog) (w := w) 22 ty base ChR i0 (.agg #[.int .i64 0, .int .i64 0, .int .i64 0]) 3 24 Try.underlying22 hi hz0 hz1 hz2 rfl (by decide) v n xs hown ⟨b, off, none⟩ (m + 1) cap ys hl
      (fun j u hj => by
        obtain ⟨b', off', e, hcell⟩ := hc j u hj
        cases e
        have hadd : (⟨b, off, none⟩ : Addr).add j = ⟨b, off + j, none⟩ := by unfold Addr.add; split <;> simp_all
        rw [hadd]; exact hcell) h1 (by omega) (by unfold maxLen; omega) (by omega) hbase _ rfl
    refine ⟨_, _, w', hr, ho, hg, fun g' e => ?_⟩
    simp [Value.ownBlock] at e
    subst e
    rcases hat with e | e
    · exact .inl e
    · exact .inr (by omega)
theorem wpList_append_ch {w : World} {ops : Array Oper} {rest : List Oper} {o : Oper} {a : Act} {Q : Exit → Act → World → Prop} (hgd : o.guard = none) (s x : Operand)
    (ho : o.op = .call { callee := .builtin .append, args := #[s, x], argTypes := #[22, 22] })
    (base : Nat) (v : Value) (n : Nat) (xs : List Value) (hs : a.eval s = v) (hown : w.ownsRow base ChR 3 v n xs) (u : Value) (m : Nat) (ys : List Value) (hx : a.eval x = u) (hu : Src3 w u m ys) (h1 : ∀ u ∈ ys, u.oneCell' = true) (hm : (n + m) * 24 ≤ 140737488355328) (hbase : base ≤ w.heap.size)
    (h : ∀ p cap w', w'.ownsRow base ChR 3 (.slice p (n + m) cap) (n + m) (xs ++ ys) → w.grownBy w' v.ownBlock → (∀ g, (Value.slice p (n + m) cap).ownBlock = some g → v.ownBlock = some g ∨ w.heap.size ≤ g) → wpList Try.prog ops Q rest (a.put o.dst (.slice p (n + m) cap)) w') : wpList Try.prog ops Q (o :: rest) a w := by
  refine wpList_plain hgd fun K hK => ?_
  obtain ⟨p, cap, w', hr, h2, h3, h4⟩ := run_append_ch w o.type base v n xs hown u m ys hu h1 hm hbase
  unfold Oper.wp execOp
  simp only [ho, resolve, invoke, builtin, Sem.run_bind, Sem.run_pure, Result.andThen_ok, List.map_toArray, List.map_cons, List.map_nil, hs, hx, hr]
  exact hK _ _ (h p cap w' h2 h3 h4)

structure Three (B : Nat) (w : World) (L n : Nat) (f : Nat → Int) (ov : Value) (t : Nat) (g : Nat → Int) (cv : Value) (m : Nat) (h : Nat → Tri) : Prop where
  l : NumsO B w (.slice (some ⟨L, 0, none⟩) n n) n f
  o : NumsO B w ov t g
  c : TrisO ChR B w cv m h
  lo : ∀ b, ov.ownBlock = some b → b ≠ L
  lc : ∀ b, cv.ownBlock = some b → b ≠ L
  oc : ∀ b, cv.ownBlock = some b → ¬ ov.ownBlock = some b
section
variable {B : Nat} {w : World} {L n : Nat} {f : Nat → Int} {ov : Value} {t : Nat} {g : Nat → Int} {cv : Value} {m : Nat} {h : Nat → Tri}
theorem Three.below (H : Three B w L n f ov t g cv m h) {w' : World} (hb : Below w.heap.size w w') : Three B w' L n f ov t g cv m h :=
  ⟨own_under H.l hb, own_under H.o hb, own_under H.c hb, H.lo, H.lc, H.oc⟩
theorem Three.setL (H : Three B w L n f ov t g cv m h) (i : Nat) (x : Int) : Three B (w.setCell ⟨L, i, none⟩ (.int .i64 x)) L n (upd f i x) ov t g cv m h := by
  have h1 := (World.ownsRow.stored H.l i (.int .i64 x)).1
  rw [numL_set] at h1
  have hk : Keeps (fun b => b = L) w (w.setCell ⟨L, i, none⟩ (.int .i64 x)) := (Keeps.refl (fun b => b = L) w).setCell ⟨L, i, none⟩ _ rfl
  exact ⟨h1, own_keep H.o hk H.lo, own_keep H.c hk H.lc, H.lo, H.lc, H.oc⟩
theorem Three.congrL (H : Three B w L n f ov t g cv m h) {f' : Nat → Int} (e : numL f n = numL f' n) : Three B w L n f' ov t g cv m h :=
  ⟨by show w.ownsRow B _ 1 _ n (numL f' n); rw [← e]; exact H.l, H.o, H.c, H.lo, H.lc, H.oc⟩
theorem Three.noC (H : Three B w L n f ov t g cv m h) (h' : Nat → Tri) : Three B w L n f ov t g (.slice none 0 0) 0 h' :=
  ⟨H.l, H.o, by
    show w.ownsRow B ChR 3 (.slice none 0 0) 0 (triL h' 0)
    rw [show triL h' 0 = [] from List.eq_nil_of_length_eq_zero (by rw [triL_len])]
    exact World.ownsRow_nil _ _ _ _, H.lo, (fun b e => by cases e), (fun b e => by cases e)⟩
theorem own_blk {E z k : Nat} {v : Value} {xs : List Value} (H : w.ownsRow B E z v k xs) {b : Nat} (e : v.ownBlock = some b) : b < w.heap.size := (World.ownsRow.lt H b e).2
theorem Three.appC (H : Three B w L n f ov t g cv m h) {w' : World} {cv' : Value} {m' : Nat} {h' : Nat → Tri} (hc : TrisO ChR B w' cv' m' h') (hg : w.grownBy w' cv.ownBlock) (hat : ∀ b, cv'.ownBlock = some b → cv.ownBlock = some b ∨ w.heap.size ≤ b) : Three B w' L n f ov t g cv' m' h' := by
  refine ⟨World.ownsRow.kept H.l hg (.inr fun e => ?_), World.ownsRow.kept H.o hg ?_, hc, H.lo, fun b e => ?_, fun b e e2 => ?_⟩
  · have e2 : cv.ownBlock = some L := e.symm.trans rfl
    exact H.lc L e2 rfl
  · cases e : ov.ownBlock with
    | none => exact .inl rfl
    | some b =>
      refine .inr fun e2 => ?_
      exact H.oc b e2.symm e
  · rcases hat b e with k | k
    · exact H.lc b k
    · have := own_blk H.l (b := L) rfl
      omega
  · rcases hat b e with k | k
    · exact H.oc b k e2
    · have := own_blk H.o e2
      omega
theorem Three.appO (H : Three B w L n f ov t g cv m h) {w' : World} {ov' : Value} {t' : Nat} {g' : Nat → Int} (hc : NumsO B w' ov' t' g') (hg : w.grownBy w' ov.ownBlock) (hat : ∀ b, ov'.ownBlock = some b → ov.ownBlock = some b ∨ w.heap.size ≤ b) : Three B w' L n f ov' t' g' cv m h := by
  refine ⟨World.ownsRow.kept H.l hg (.inr fun e => ?_), hc, World.ownsRow.kept H.c hg ?_, fun b e => ?_, H.lc, fun b e e2 => ?_⟩
  · have e2 : ov.ownBlock = some L := e.symm.trans rfl
    exact H.lo L e2 rfl
  · cases e : cv.ownBlock with
    | none => exact .inl rfl
    | some b =>
      refine .inr fun e2 => ?_
      exact H.oc b e e2.symm
  · rcases hat b e with k | k
    · exact H.lo b k
    · have := own_blk H.l (b := L) rfl
      omega
  · rcases hat b e2 with k | k
    · exact H.oc b e k
    · have := own_blk H.c e
      omega
end
theorem src_one (w : World) (x : Int) (T : TypeId) : Src1 (w.alloc (.cells #[.int .i64 x] T)) (.slice (some ⟨w.heap.size, 0, none⟩) 1 1) 1 [.int .i64 x] := by
  refine ⟨_, _, rfl, rfl, fun j y hy => ⟨w.heap.size, 0, rfl, ?_⟩⟩
  rw [Nat.zero_add, has_cell (has_new w (.cells #[.int .i64 x] T) _ rfl)]
  simpa using hy
theorem src_tri (w : World) (a b c : Int) (T : TypeId) : Src3 (w.alloc (.cells #[.int .i64 a, .int .i64 b, .int .i64 c] T)) (.slice (some ⟨w.heap.size, 0, none⟩) 1 1) 1 [.int .i64 a, .int .i64 b, .int .i64 c] := by
  refine ⟨_, _, rfl, rfl, fun j y hy => ⟨w.heap.size, 0, rfl, ?_⟩⟩
  rw [Nat.zero_add, has_cell (has_new w (.cells #[.int .i64 a, .int .i64 b, .int .i64 c] T) _ rfl)]
  simpa using hy
end Go.Proofs.Ytfahpjilgdlhiaa
