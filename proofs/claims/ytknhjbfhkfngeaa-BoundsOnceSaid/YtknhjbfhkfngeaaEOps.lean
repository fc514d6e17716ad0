/- The program's Push, Len, Min and Pop of a heap, told by what is in it, in whatever order; no condition but those that each row names. -/
import Derived.Test.YtknhjbfhkfngeaaEPush
namespace Go.Proofs.Ytknhjbfhkfngeaa
open Go.RowKit Go.Maps Hp

section
variable {α : Type} [Inhabited α] (kc : α → α → Int) (enc : α → Value) (T E : TypeId) (B : Nat)
/-- A heap in a world that has the entries R; its blocks are S. -/
def HpR (S : Nat → Prop) (w : World) (R : List (Int × α)) (b : Nat) : Prop :=
  (Fresh T B w b ∧ R = [] ∧ ∀ x, S x ↔ x = b) ∨ ∃ L g cap mb, HW enc T E B w L b g cap mb ∧ Heap (ahB kc) (at' L) L.length ∧ L.Perm R ∧ ∀ x, S x ↔ x = b ∨ x = g ∨ x = mb
variable {kc enc T E B} {S : Nat → Prop} {w : World} {R : List (Int × α)} {b : Nat}
theorem HpR.lt (h : HpR kc enc T E B S w R b) : ∀ x, S x → B ≤ x ∧ x < w.heap.size := by
  intro x hx
  rcases h with ⟨h, _, hS⟩ | ⟨L, g, cap, mb, h, _, _, hS⟩
  · obtain rfl := (hS x).1 hx; exact ⟨h.2, h.lt⟩
  · rcases (hS x).1 hx with rfl | rfl | rfl
    · exact ⟨h.hb, h.lt⟩
    · exact ⟨h.hg, h.row.lt enc⟩
    · exact ⟨h.hm, h.mp.lt⟩
theorem HpR.keeps {w' : World} {Q : Nat → Prop} (h : HpR kc enc T E B S w R b) (hk : Keeps Q w w') (hd : ∀ x, S x → ¬ Q x) : HpR kc enc T E B S w' R b := by
  rcases h with ⟨h, hR, hS⟩ | ⟨L, g, cap, mb, h, hh, hp, hS⟩
  · exact .inl ⟨⟨(hk.block b h.lt (hd b ((hS b).2 rfl))).trans h.1, h.2⟩, hR, hS⟩
  · exact .inr ⟨L, g, cap, mb, h.keeps hk (hd b ((hS b).2 (.inl rfl))) (hd g ((hS g).2 (.inr (.inl rfl)))) (hd mb ((hS mb).2 (.inr (.inr rfl)))), hh, hp, hS⟩
theorem HpR.below {w' : World} (h : HpR kc enc T E B S w R b) (hk : Below w.heap.size w w') : HpR kc enc T E B S w' R b :=
  h.keeps (Q := fun _ => False) (Keeps.of_below hk) (fun _ _ k => k)
theorem HpR.perm {R' : List (Int × α)} (h : HpR kc enc T E B S w R b) (hp : R.Perm R') : HpR kc enc T E B S w R' b := by
  rcases h with ⟨h, rfl, hS⟩ | ⟨L, g, cap, mb, h, hh, hq, hS⟩
  · exact .inl ⟨h, hp.nil_eq.symm, hS⟩
  · exact .inr ⟨L, g, cap, mb, h, hh, hq.trans hp, hS⟩
theorem HpR.b_in (h : HpR kc enc T E B S w R b) : S b := by
  rcases h with ⟨_, _, hS⟩ | ⟨_, _, _, _, _, _, _, hS⟩
  · exact (hS b).2 rfl
  · exact (hS b).2 (.inl rfl)
/-- The numbers are apart. -/
theorem HpR.nodup (h : HpR kc enc T E B S w R b) : (R.map (·.1)).Nodup := by
  rcases h with ⟨_, rfl, _⟩ | ⟨L, g, cap, mb, h, _, hp, _⟩
  · simp
  · refine (hp.map _).nodup_iff.1 ?_
    refine List.pairwise_iff_getElem.2 fun i j hi hj hij => ?_
    simp only [List.length_map] at hi hj
    simp only [List.getElem_map]
    intro e
    have := h.nodup hi hj e
    omega
/-- The one of R that nobody is ahead of. -/
def Mn (kc : α → α → Int) (x : Int × α) (R : List (Int × α)) : Prop := x ∈ R ∧ ∀ y ∈ R, le (ahB kc) x y
theorem heap_mn {kc : α → α → Int} (C : Cmp kc) {L R : List (Int × α)} {x : Int × α} (hh : Heap (ahB kc) (at' L) L.length) (hp : L.Perm R) (hx : Mn kc x R) (h0 : 0 < L.length) : at' L 0 = x := by
  have h1 : le (ahB kc) (at' L 0) x := by
    obtain ⟨i, hi, rfl⟩ := List.getElem_of_mem (hp.mem_iff.2 hx.1)
    rw [← at_get hi]
    exact hh.first C.ord i hi
  have h2 := hx.2 _ (hp.mem_iff.1 (at_mem h0))
  exact C.ord.tot h2 h1
/-- Who is put in, taken out: the heap behind it. -/
def Gone (kc : α → α → Int) (enc : α → Value) (T E : TypeId) (B : Nat) (S : Nat → Prop) (w : World) (R' : List (Int × α)) (b : Nat) (w' : World) : Prop :=
  HpR kc enc T E B S w' R' b ∧ Keeps S w w'
def Come (kc : α → α → Int) (enc : α → Value) (T E : TypeId) (B : Nat) (S : Nat → Prop) (w : World) (R' : List (Int × α)) (b : Nat) (w' : World) : Prop :=
  ∃ S', HpR kc enc T E B S' w' R' b ∧ Keeps S w w' ∧ ∀ x, S' x → S x ∨ w.heap.size ≤ x
theorem TakeEnd.gone {L : List (Int × α)} {g cap mb p : Nat} {w' : World} {x : Int × α} {R' : List (Int × α)} (h : TakeEnd kc enc T E B w L b g cap mb p w') (hS : ∀ x, S x ↔ x = b ∨ x = g ∨ x = mb) (hx : at' L p = x) (hp : L.Perm (x :: R')) : Gone kc enc T E B S w R' b w' := by
  obtain ⟨L', h1, h2, h3, h4⟩ := h
  rw [hx] at h3
  exact ⟨.inr ⟨L', g, cap, mb, h1, h2, (h3.symm.trans hp).cons_inv, hS⟩, h4.mono fun y hy => (hS y).2 hy⟩
end
section
variable {B : Nat} {S : Nat → Prop} {w : World} {R : List (Int × Int)} {b : Nat}
theorem hp_new_I (w : World) (hB : B ≤ w.heap.size) : HpR kc_I enc_I HT_I NT_I B (fun x => x = w.heap.size) (w.alloc (.cells #[.slice none 0 0, .map none] HT_I)) [] w.heap.size :=
  .inl ⟨⟨heap_alloc_new w _, hB⟩, rfl, fun _ => Iff.rfl⟩
theorem push_I (h : HpR kc_I enc_I HT_I NT_I B S w R b) (id : Int) (key : Int) (hid : In64 id) (hno : ∀ e ∈ R, e.1 ≠ id) (hn : R.length + 1 ≤ 4096) (hB : B ≤ w.heap.size) :
    Calls Try.prog 13 #[.pointer (some ⟨b, 0, none⟩), .int .i64 id, (.int .i64 key)] w (fun e w' => e = .returned .nilIface ∧ Come kc_I enc_I HT_I NT_I B S w ((id, key) :: R) b w') := by
  rcases h with ⟨h, rfl, hS⟩ | ⟨L, g, cap, mb, h, hh, hp, hS⟩
  · refine (push_fresh_I h id key hid hB).mono fun e w' ⟨he, L', g, cap, h1, h2, h3, h4, h5⟩ => ⟨he, fun x => x = b ∨ x = g ∨ x = w.heap.size, .inr ⟨L', g, cap, _, h1, h2, h3, fun _ => Iff.rfl⟩, ?_, ?_⟩
    · refine ⟨h4.os, h4.tape, h4.output, h4.size, fun y hy hn => h4.block y hy ?_⟩
      rintro (e | e | e)
      · exact hn ((hS y).2 e)
      · simp [Value.ownBlock] at e
      · omega
    · rintro y (rfl | rfl | rfl)
      · exact .inl ((hS _).2 rfl)
      · rcases h5 with e | e
        · simp [Value.ownBlock] at e
        · exact .inr e
      · exact .inr (Nat.le_refl _)
  · have hno' : ∀ e ∈ L, e.1 ≠ id := fun e he => hno e (hp.mem_iff.1 he)
    refine (push_used_I h hh id key hid hno' (by rw [hp.length_eq]; exact hn) hB).mono fun e w' ⟨he, L', g', cap', h1, h2, h3, h4, h5⟩ => ⟨he, fun x => x = b ∨ x = g' ∨ x = mb, .inr ⟨L', g', cap', mb, h1, h2, h3.trans (List.Perm.cons _ hp), fun _ => Iff.rfl⟩, ?_, ?_⟩
    · refine h4.mono fun y hy => (hS y).2 ?_
      rcases hy with e | e | e
      · exact .inl e
      · simp [Value.ownBlock] at e; exact .inr (.inl e.symm)
      · exact .inr (.inr e)
    · rintro y (rfl | rfl | rfl)
      · exact .inl ((hS _).2 (.inl rfl))
      · rcases h5 with e | e
        · simp [Value.ownBlock] at e; exact .inl ((hS _).2 (.inr (.inl e.symm)))
        · exact .inr e
      · exact .inl ((hS _).2 (.inr (.inr rfl)))
/-- Put in what is there. -/
theorem push_again_I (h : HpR kc_I enc_I HT_I NT_I B S w R b) (id : Int) (key : Int) (hin : ∃ e ∈ R, e.1 = id) :
    Calls Try.prog 13 #[.pointer (some ⟨b, 0, none⟩), .int .i64 id, (.int .i64 key)] w (fun e w' => e = .returned (errV 1) ∧ w = w') := by
  obtain ⟨x, hx, rfl⟩ := hin
  rcases h with ⟨h, rfl, hS⟩ | ⟨L, g, cap, mb, h, hh, hp, hS⟩
  · simp at hx
  · obtain ⟨i, hi, rfl⟩ := List.getElem_of_mem (hp.mem_iff.2 hx)
    have HP := Lib.hid (place_yes_I h i hi _ rfl)
    generalize L[i].1 = id at HP
    clear h hh hp hS hi hx
    go_enter Try.func13, Try.ntmps13
    go_wp2_with fail
    refine HP.out.mono ?_
    rintro e w1 ⟨rfl, rfl⟩
    go_wp2_with fail
    go_ret
    exact ⟨rfl, rfl⟩
theorem len_of_I (w : World) (b : Nat) (p : Option Addr) (n c : Nat) (f0 : w.cell? ⟨b, 0, none⟩ = some (.slice p n c)) :
    Calls Try.prog 16 #[.pointer (some ⟨b, 0, none⟩)] w (fun e w' => e = .returned (.int .i64 n) ∧ w = w') := by
  go_enter Try.func16, Try.ntmps16
  go_wp2
  go_ret
  exact ⟨rfl, rfl⟩
theorem len_I (h : HpR kc_I enc_I HT_I NT_I B S w R b) :
    Calls Try.prog 16 #[.pointer (some ⟨b, 0, none⟩)] w (fun e w' => e = .returned (.int .i64 R.length) ∧ w = w') := by
  rcases h with ⟨h, rfl, hS⟩ | ⟨L, g, cap, mb, h, hh, hp, hS⟩
  · exact len_of_I w b _ 0 _ (by rw [cell_of_row _ _ _ _ _ _ h.1]; rfl)
  · exact len_of_I w b _ _ cap (h.len0_I hp.length_eq)
theorem min_none_I (h : HpR kc_I enc_I HT_I NT_I B S w [] b) :
    Calls Try.prog 15 #[.pointer (some ⟨b, 0, none⟩)] w (fun e w' => e = .returned (.tuple #[.int .i64 0, .int .i64 0, .bool false]) ∧ w = w') := by
  have HN := Lib.hid (len_I h)
  clear h
  go_enter Try.func15, Try.ntmps15
  go_wp2_with fail
  refine HN.out.mono ?_
  rintro e w1 ⟨rfl, rfl⟩
  go_wp2_with fail
  go_ret3
  exact ⟨rfl, rfl⟩
theorem min_of_I (w : World) (b g cap n : Nat) (id : Int) (key : Int) (hn : 0 < n) (f0 : w.cell? ⟨b, 0, none⟩ = some (.slice (some ⟨g, 0, none⟩) n cap)) (c0 : w.cell? ⟨g, 0, none⟩ = some (.int .i64 id)) (c1 : w.cell? ⟨g, 1, none⟩ = some ((.int .i64 key))) :
    Calls Try.prog 15 #[.pointer (some ⟨b, 0, none⟩)] w (fun e w' => e = .returned (.tuple #[.int .i64 id, (.int .i64 key), .bool true]) ∧ ∃ k, w' = w.drewN k) := by
  have HN := Lib.hid (len_of_I w b _ n cap f0)
  have z : ((n : Int) == 0) = false := by simp; omega
  have z1 : (0 : Int) < (n : Int) := by omega
  clear hn
  go_enter Try.func15, Try.ntmps15
  go_wp2_with fail
  refine HN.out.mono ?_
  rintro e w1 ⟨rfl, rfl⟩
  go_wp2_with fail
  go_quiet (fail)
  go_wp2_with fail
  go_ret3
  exact ⟨rfl, _, rfl⟩
theorem min_I (h : HpR kc_I enc_I HT_I NT_I B S w R b) (x : Int × Int) (hx : Mn kc_I x R) :
    Calls Try.prog 15 #[.pointer (some ⟨b, 0, none⟩)] w (fun e w' => e = .returned (.tuple #[.int .i64 x.1, (.int .i64 x.2), .bool true]) ∧ Below w.heap.size w w') := by
  rcases h with ⟨h, rfl, hS⟩ | ⟨L, g, cap, mb, h, hh, hp, hS⟩
  · have := hx.1; simp at this
  · have h0 : 0 < L.length := by rw [hp.length_eq]; exact List.length_pos_of_mem hx.1
    obtain ⟨c0, c1, _, _⟩ := h.row.cells _ 0 h0
    have e := heap_mn cmp_I hh hp hx h0
    rw [at_get h0] at e
    rw [e] at c0 c1
    exact (min_of_I w b g cap L.length x.1 x.2 h0 h.f0 (by simpa using c0) (by simpa using c1)).mono fun e w' ⟨he, k, hk⟩ => ⟨he, hk ▸ below_drewN (Below.refl _ _) _⟩
theorem pop_none_I (h : HpR kc_I enc_I HT_I NT_I B S w [] b) :
    Calls Try.prog 14 #[.pointer (some ⟨b, 0, none⟩)] w (fun e w' => e = .returned (.tuple #[.int .i64 0, .int .i64 0, .bool false]) ∧ w = w') := by
  have HN := Lib.hid (min_none_I h)
  clear h
  go_enter Try.func14, Try.ntmps14
  go_wp2_with fail
  refine HN.out.mono ?_
  rintro e w1 ⟨rfl, rfl⟩
  go_wp2_with fail
  go_ret3
  exact ⟨rfl, rfl⟩
theorem pop_I (h : HpR kc_I enc_I HT_I NT_I B S w R b) (x : Int × Int) (R' : List (Int × Int)) (hx : Mn kc_I x R) (hR : R.Perm (x :: R')) :
    Calls Try.prog 14 #[.pointer (some ⟨b, 0, none⟩)] w (fun e w' => e = .returned (.tuple #[.int .i64 x.1, (.int .i64 x.2), .bool true]) ∧ Gone kc_I enc_I HT_I NT_I B S w R' b w') := by
  have HN := Lib.hid (min_I h x hx)
  rcases h with ⟨h, rfl, hS⟩ | ⟨L, g, cap, mb, h, hh, hp, hS⟩
  · have := hx.1; simp at this
  · have h0 : 0 < L.length := by rw [hp.length_eq]; exact List.length_pos_of_mem hx.1
    have HX := Lib.hid (heap_mn cmp_I hh hp hx h0)
    have HT := fun (w1 : World) (hb : Below w.heap.size w w1) => Lib.hid (take_I (h.below hb) hh 0 h0)
    have HP := Lib.hid (hp.trans hR)
    have HS := Lib.hid hS
    obtain ⟨xi, xk⟩ := x
    clear h hh hp hx hS h0
    go_enter Try.func14, Try.ntmps14
    go_wp2_with fail
    refine HN.out.mono ?_
    rintro e w1 ⟨rfl, hb⟩
    have HT1 := HT w1 hb
    have HB := Lib.hid hb
    clear hb HT
    go_wp2_with fail
    refine HT1.out.mono ?_
    rintro e w2 ⟨rfl, ht⟩
    have HG := Lib.hid (ht.gone HS.out HX.out HP.out)
    clear ht
    go_wp2_with fail
    go_ret3
    exact ⟨rfl, HG.out.1, (Keeps.of_below HB.out).trans HG.out.2⟩
end
end Go.Proofs.Ytknhjbfhkfngeaa
