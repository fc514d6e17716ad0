/- A nil queue and one that New has not made, in every call; what FifoNone has in memory; no condition but those that each row names. -/
import Derived.Test.YtdpchojfgcjbeaaFKeep
import Derived.Test.YtdpchojfgcjbeaaFTwinsA
namespace Go.Proofs.Ytdpchojfgcjbeaa
open Go.RowKit Go.Shelf

def qu0 : Qu := ⟨0, [], 0⟩
theorem good0 {k : Nat} : qu0.Good k := good_new (by omega) (by omega)
/-- A queue without room. -/
def Em (W : World) (q : Option Addr) : Prop := q = none ∨ ∃ B b, q = some ⟨b, 0, none⟩ ∧ PQ QT_I ET_I 1 B W qu0 b (.slice none 0 0)
theorem Em.holds {W : World} {q : Option Addr} (h : Em W q) : Holds_I W (.pointer q) [] := by
  rcases h with rfl | ⟨B, b, rfl, h⟩
  · exact .inl ⟨rfl, rfl⟩
  · exact .inr ⟨B, b, _, qu0, rfl, h, good0, rfl⟩
theorem Em.qat {W : World} {q : Option Addr} (h : Em W q) : Qat_I W q 0 [] := by
  rcases h with rfl | ⟨B, b, rfl, h⟩
  · exact .inl ⟨rfl, rfl, rfl⟩
  · exact .inr ⟨B, b, _, qu0, rfl, h, good0, rfl, rfl⟩
theorem Em.below {W W' : World} {q : Option Addr} (h : Em W q) (hb : Below W.heap.size W W') : Em W' q := by
  rcases h with rfl | ⟨B, b, rfl, h⟩
  · exact .inl rfl
  · exact .inr ⟨B, b, rfl, h.below hb⟩
theorem em_drop (W : World) (q : Option Addr) (h : Em W q) (i : Int) : Calls Try.prog 17 #[.pointer q, .int .i64 i] W fun e w' => e = .returned (.tuple #[.int .i64 0, errV 50]) ∧ W = w' := by
  rcases h with rfl | ⟨B, b, rfl, h⟩
  · exact drop_nil_I W i
  · exact drop_no_I 1 B qu0 W b _ h i (decide_eq_false (by show ¬ (0 ≤ i ∧ i < ((0 : Nat) : Int)); omega))
theorem em_pop (W : World) (q : Option Addr) (h : Em W q) : Calls Try.prog 14 #[.pointer q] W fun e w' => e = .returned (.tuple #[.int .i64 0, errV 50]) ∧ W = w' :=
  (pop_of_I W _ (fun w' => W = w') _ _ ((em_drop W q h 0).mono fun _ _ h => ⟨h.1, h.2⟩)).mono fun _ _ h => ⟨h.1, h.2⟩
theorem em_at (W : World) (q : Option Addr) (h : Em W q) (i : Int) : Calls Try.prog 16 #[.pointer q, .int .i64 i] W fun e w' => e = .returned (.tuple #[.int .i64 0, .bool false]) ∧ W = w' :=
  at_holds_no_I W _ _ h.holds i (by simp; omega)
theorem em_head (W : World) (q : Option Addr) (h : Em W q) : Calls Try.prog 15 #[.pointer q] W fun e w' => e = .returned (.tuple #[.int .i64 0, .bool false]) ∧ W = w' :=
  head_of_I W _ _ _ (em_at W q h 0)
theorem em_push (W : World) (q : Option Addr) (h : Em W q) (v : Int) : Calls Try.prog 18 #[.pointer q, .int .i64 v] W fun e w' => e = .returned (errV 40) ∧ W = w' := by
  rcases h with rfl | ⟨B, b, rfl, h⟩
  · exact push_nil_I W v
  · exact push_no_I 1 B qu0 good0 W b _ h v (by simp [qu0])
theorem em_put (W : World) (q : Option Addr) (h : Em W q) (i v : Int) : Calls Try.prog 19 #[.pointer q, .int .i64 i, .int .i64 v] W fun e w' => e = .returned (errV 50) ∧ W = w' := by
  rcases h with rfl | ⟨B, b, rfl, h⟩
  · exact put_nil W i v
  · exact put_no 1 B qu0 W b _ h i (decide_eq_false (by show ¬ (0 ≤ i ∧ i < ((0 : Nat) : Int)); omega)) v
theorem em_len (W : World) (q : Option Addr) (h : Em W q) : Calls Try.prog 20 #[.pointer q] W fun e w' => e = .returned (.int .i64 0) ∧ W = w' := by
  rcases h with rfl | ⟨B, b, rfl, h⟩
  · exact len_nil_I W
  · exact len_I 1 B qu0 W b _ h
theorem em_limit (W : World) (q : Option Addr) (h : Em W q) : Calls Try.prog 22 #[.pointer q] W fun e w' => e = .returned (.int .i64 0) ∧ W = w' := by
  rcases h with rfl | ⟨B, b, rfl, h⟩
  · exact limit_nil_I W
  · exact limit_I 1 B qu0 W b _ h
theorem em_room (W : World) (q : Option Addr) (h : Em W q) : Calls Try.prog 21 #[.pointer q] W fun e w' => e = .returned (.int .i64 0) ∧ W = w' := by
  rcases h with rfl | ⟨B, b, rfl, h⟩
  · exact room_nil_I W
  · exact room_I 1 B qu0 good0 W b _ h
theorem em_list (W : World) (q : Option Addr) (h : Em W q) : Calls Try.prog 23 #[.pointer q] W fun e w' => (∃ p cap, e = .returned (.slice p 0 cap)) ∧ Below W.heap.size W w' :=
  (list_any W q [] h.holds).mono (by
    rintro e w' ⟨v, rfl, ho, hb⟩
    obtain ⟨p, cap, rfl⟩ := own_slice ho
    exact ⟨⟨p, cap, rfl⟩, hb⟩)
set_option maxHeartbeats 400000 in
theorem em_clear (W : World) (q : Option Addr) (h : Em W q) : Calls Try.prog 24 #[.pointer q] W fun e w' => e = .returned (.int .i64 0) ∧ W = w' := by
  have HL := Lib.hid (em_len W q h)
  clear h
  go_enter Try.func24, Try.ntmps24
  go_wp2_with fail
  refine HL.out.mono ?_
  rintro e w2 ⟨rfl, rfl⟩
  go_wp2_with fail
  go_ret
  exact ⟨rfl, rfl⟩
set_option maxHeartbeats 400000 in
theorem keep_nilq (W : World) (f : Value) : Calls Try.prog 26 #[.pointer none, f] W fun e w' => e = .returned (.int .i64 0) ∧ W = w' := by
  go_enter Try.func26, Try.ntmps26
  go_wp2_with fail
  go_ret
  exact ⟨rfl, rfl⟩
theorem nil_eqIn (w : World) (d : Nat) : (Op.equalIn (d + 1) 59 .nilFunc .nilFunc).run Try.prog w = .ok true w := by
  simp [Op.equalIn, run_underlying Try.underlying59]
theorem nil_eq (w : World) : (binOp .eql 59 .nilFunc .nilFunc).run Try.prog w = .ok (.bool true) w := by
  simp only [binOp]
  simp [Op.equal, Op.maxDepth, nil_eqIn w 9999]
set_option maxHeartbeats 400000 in
theorem keep_nilf (W : World) (a : Addr) : Calls Try.prog 26 #[.pointer (some a), .nilFunc] W fun e w' => e = .returned (.int .i64 0) ∧ W = w' := by
  have hn := nil_eq
  go_enter Try.func26, Try.ntmps26
  go_wp2_with fail
  go_ret
  exact ⟨rfl, rfl⟩
theorem yes_any (x : Int) (W : World) : Calls Try.prog 27 #[.int .i64 x] W fun e w' => e = .returned (.bool true) ∧ W = w' := by
  go_enter Try.func27, Try.ntmps27
  go_wp2_with fail
  go_ret
  exact ⟨rfl, rfl⟩
/-- Keep of a queue without room: nothing goes; the queue is as it was. -/
theorem em_keep (W : World) (q : Option Addr) (h : Em W q) : Calls Try.prog 26 #[.pointer q, .func (.func 27) #[] #[]] W fun e w' => e = .returned (.int .i64 0) ∧ Em w' q ∧ Keeps (fun x => q = some ⟨x, 0, none⟩) W w' ∧ (∀ B b, q = some ⟨b, 0, none⟩ → PQ QT_I ET_I 1 B W qu0 b (.slice none 0 0) → PQ QT_I ET_I 1 B w' qu0 b (.slice none 0 0)) := by
  rcases h with rfl | ⟨B, b, rfl, h⟩
  · exact (keep_nilq W _).mono (by rintro e w' ⟨rfl, rfl⟩; exact ⟨rfl, .inl rfl, Keeps.refl _ _, fun _ _ e => by cases e⟩)
  · refine (keep_I W B qu0 b (.slice none 0 0) 27 #[] (fun _ => true) (fun _ => False) (fun _ _ => True) [] good0 (by simp [qu0]) h rfl (enters_of Try.func27 (by kernel_rfl) rfl)
      ⟨fun i hi => by simp at hi, fun _ _ _ _ _ => trivial, fun _ h => h.elim⟩ (fun h => h) (fun _ _ h => h) trivial).mono ?_
    rintro e w' ⟨rfl, _, s', hq, hk, hs⟩
    have e1 : s' = .slice none 0 0 := by
      rcases hq.own.2 with ⟨rfl, _⟩ | ⟨g, cap, cur, rfl, _⟩
      · rfl
      · simp [Value.ownBlock] at hs
    subst e1
    have e2 : ({ qu0 with l := ent_I (([] : List (Int × Int)).filter fun _ => true) } : Qu) = qu0 := rfl
    rw [e2] at hq
    refine ⟨rfl, .inr ⟨B, b, rfl, hq⟩, hk.mono (fun x hx => ?_), fun B' b' e h' => ?_⟩
    · rcases hx with hx | rfl | hx
      · exact hx.elim
      · rfl
      · simp [Value.ownBlock] at hx
    · cases e
      exact ⟨hq.blk, World.ownsRow_nil _ _ _ _, h'.hb, hq.ne⟩
end Go.Proofs.Ytdpchojfgcjbeaa
