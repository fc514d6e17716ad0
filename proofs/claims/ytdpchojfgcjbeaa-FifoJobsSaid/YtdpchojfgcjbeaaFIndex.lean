/- The library's slices.IndexFunc and slices.DeleteFunc over entries of a queue, at whatever function tells by the entry alone which are to go; no condition but those that each row names. -/
import Derived.Test.YtdpchojfgcjbeaaFDelete
import Derived.Test.YtdpchojfgcjbeaaFPut
import Derived.Deep.LoopGhost
import Derived.Shelf.Abstract
namespace Go.Proofs.Ytdpchojfgcjbeaa
open Go.RowKit Go.Shelf

def ent_I (l : List (Int × Int)) : List (Value × Int) := l.map fun p => ((.int .i64 p.1), p.2)
theorem ent_len_I (l : List (Int × Int)) : (ent_I l).length = l.length := by simp [ent_I]
theorem ent_wide_I (l : List (Int × Int)) : Wide 1 (ent_I l) := by
  intro p hp
  obtain ⟨q, _, rfl⟩ := List.mem_map.1 hp
  exact ⟨rfl, fun u hu => by simp [cellsOf] at hu; rcases hu with rfl <;> rfl⟩
/-- What an entry is, as it is handed on. -/
def val_I (p : Int × Int) : Value := .agg #[(.int .i64 p.1), .int .i64 p.2]
/-- The cells of an entry in its row. -/
def CellsAt_I (w : World) (g i : Nat) (p : Int × Int) : Prop :=
  w.cell? ⟨g, i * 2, none⟩ = some ((.int .i64 p.1)) ∧ w.cell? ⟨g, i * 2 + 1, none⟩ = some (.int .i64 p.2)
theorem row_cells_I {w : World} {g : Nat} {cur : List Value} (h : Row ET_I w g cur) {l : List (Int × Int)} {i : Nat} (hi : i < l.length) (hc : ∀ t, t < 2 → cur[i * 2 + t]? = (flat (ent_I l))[i * 2 + t]?) : CellsAt_I w g i l[i] := by
  have hi' : i < (ent_I l).length := by rw [ent_len_I]; exact hi
  have e : (ent_I l)[i] = ((.int .i64 l[i].1), l[i].2) := by simp [ent_I]
  have hf := fun t ht => (h.cell (i * 2 + t)).trans ((hc t (by omega)).trans ((flat_cells (ent_wide_I l) hi' t ht).trans (by rw [e])))
  have hn := (h.cell (i * 2 + 1)).trans ((hc 1 (by omega)).trans (flat_num (ent_wide_I l) hi'))
  rw [e] at hn
  exact ⟨hf 0 (by omega), hn⟩

/-- What is asked of the function: it tells of each entry, wherever memory but the row g stands as it stood, whether it is to go; it may make memory. -/
def Tells_I (w : World) (g : Nat) (f : Nat) (lb : Array Value) (dl : Int × Int → Bool) (l : List (Int × Int)) : Prop :=
  ∀ W, Keeps (fun x => x = g) w W → ∀ p ∈ l, Calls Try.prog f (#[val_I p] ++ lb) W fun e W' => e = .returned (.bool (dl p)) ∧ Below W.heap.size W W'

set_option maxHeartbeats 1000000 in
set_option maxRecDepth 100000 in
theorem index_I (w : World) (B g cap : Nat) (f : Nat) (lb : Array Value) (dl : Int × Int → Bool) (l : List (Int × Int)) (h4 : l.length ≤ 4096) (hown : w.ownsRow B ET_I 2 (.slice (some ⟨g, 0, none⟩) l.length cap) l.length (flat (ent_I l)))
    (ef : ∀ args w, (callFunc f args).run Try.prog w = .ok (.enter f args) w) (ht : Tells_I w g f lb dl l) :
    Calls Try.prog 73 #[.slice (some ⟨g, 0, none⟩) l.length cap, .func (.func f) #[] lb] w fun e w' =>
      (∃ k : Nat, k ≤ l.length ∧ (∀ j (hj : j < l.length), j < k → dl l[j] = false) ∧ ((k = l.length ∧ e = .returned (.int .i64 (-1))) ∨ (∃ hk : k < l.length, dl l[k] = true ∧ e = .returned (.int .i64 k)))) ∧ Below w.heap.size w w' := by
  obtain ⟨cur, hrow, hB, hnc, hcm, hcl, htk⟩ := row_of_own hown
  have hg := hrow.lt
  have HT := Lib.hid ht
  have HC : Hid (∀ i (hi : i < l.length), CellsAt_I w g i l[i]) := by
    intro i hi
    refine row_cells_I hrow hi (fun t ht => ?_)
    rw [← htk, List.getElem?_take, if_pos]
    omega
  clear hrow hcl htk ht hown
  go_enter Try.func73, Try.ntmps73
  go_wp2_with fail
  go_loopw [8] (fun i wr => ∃ k : Nat, i = .int .i64 k ∧ k ≤ l.length ∧ (∀ j (hj : j < l.length), j < k → dl l[j] = false) ∧ Below w.heap.size w wr) (fun i _ => l.length - (intOf i).toNat)
  case atStart => exact ⟨0, rfl, Nat.zero_le _, fun j _ h => by omega, Below.refl _ _⟩
  case round =>
    obtain ⟨k, rfl, hk, hall, hb⟩ := hrel
    have HALL := Lib.hid hall
    have HB := Lib.hid hb
    clear hall hb
    by_cases hlt : k < l.length
    · have hc0 := HC.out k hlt
      have hcall := HT.out wr (Keeps.of_below HB.out) l[k] (List.getElem_mem hlt)
      obtain ⟨p, hp⟩ : ∃ p, l[k] = p := ⟨_, rfl⟩
      rw [hp] at hc0 hcall
      have HPK := Lib.hid hp
      obtain ⟨x, n⟩ := p
      simp only [CellsAt_I, val_I] at hc0 hcall
      obtain ⟨c0, c1⟩ := hc0
      replace c0 := (HB.out.cell (p := ⟨g, _, none⟩) hg).trans c0
      replace c1 := (HB.out.cell (p := ⟨g, _, none⟩) hg).trans c1
      have z0 : (0 : Int) ≤ (k : Int) := by omega
      have z1 : (k : Int) < (l.length : Int) := by omega
      clear hp
      cases hd : dl (x, n) with
      | false =>
        rw [hd] at hcall
        have HCL := Lib.hid hcall
        have HD := Lib.hid hd
        clear hcall hd
        go_wp2_with fail
        refine HCL.out.mono ?_
        rintro e w1 ⟨rfl, hb1⟩
        have HB1 := Lib.hid (bnext HB.out hb1)
        clear hb1
        go_wp2_with fail
        go_roundw
        case rel =>
          refine ⟨k + 1, by go_num, by omega, fun j hj hjk => ?_, HB1.out⟩
          rcases Nat.lt_or_ge j k with h | h
          · exact HALL.out j hj h
          · obtain rfl : j = k := by omega
            rw [HPK.out]; exact HD.out
        case measure => simp [intOf]; omega
      | true =>
        rw [hd] at hcall
        have HCL := Lib.hid hcall
        have HD := Lib.hid hd
        clear hcall hd
        go_wp2_with fail
        refine HCL.out.mono ?_
        rintro e w1 ⟨rfl, hb1⟩
        have HB1 := Lib.hid (bnext HB.out hb1)
        clear hb1
        go_wp2_with fail
        go_ret
        exact ⟨⟨k, hk, HALL.out, .inr ⟨hlt, by rw [HPK.out]; exact HD.out, rfl⟩⟩, HB1.out⟩
    · obtain rfl : k = l.length := by omega
      go_wp2_with fail
      go_ret
      exact ⟨⟨l.length, Nat.le_refl _, HALL.out, .inl ⟨rfl, rfl⟩⟩, HB.out⟩

def keepL_I (dl : Int × Int → Bool) (l : List (Int × Int)) : List (Int × Int) := l.filter fun p => !dl p
theorem splice_out {cur : List Value} {o t : Nat} {vs : List Value} (h : o + vs.length ≤ t) (ho : o ≤ cur.length) : (splice cur o vs)[t]? = cur[t]? := by
  unfold splice
  rw [List.getElem?_append_right (by simp; omega), List.getElem?_append_right (by simp; omega), List.getElem?_drop]
  congr 1
  simp
  omega
/-- Between two rounds: the first i entries are those that stay, of the first j; behind j all is as it was. -/
structure Half_I (w : World) (g cap : Nat) (dl : Int × Int → Bool) (l : List (Int × Int)) (i j : Nat) (wr : World) (cur : List Value) : Prop where
  row : Row ET_I wr g cur
  len : cur.length = cap * 2
  fst : cur.take (i * 2) = flat (ent_I (keepL_I dl (l.take j)))
  snd : ∀ t, j * 2 ≤ t → t < l.length * 2 → cur[t]? = (flat (ent_I l))[t]?
  i_is : i = (keepL_I dl (l.take j)).length
  lt : i < j
  le : j ≤ l.length
  keeps : Keeps (fun x => x = g) w wr
theorem keepL_take_I {dl : Int × Int → Bool} {l : List (Int × Int)} {j : Nat} (hj : j < l.length) : keepL_I dl (l.take (j + 1)) = keepL_I dl (l.take j) ++ (if dl l[j] then [] else [l[j]]) := by
  unfold keepL_I
  rw [List.take_add_one, List.getElem?_eq_getElem hj, List.filter_append]
  cases hd : dl l[j] <;> simp [hd]
theorem Half_I.skip {w : World} {g cap : Nat} {dl : Int × Int → Bool} {l : List (Int × Int)} {i j : Nat} {wr wr' : World} {cur : List Value} (h : Half_I w g cap dl l i j wr cur) (hj : j < l.length) (hd : dl l[j] = true) (hb : Below wr.heap.size wr wr') : Half_I w g cap dl l i (j + 1) wr' cur := by
  have e := keepL_take_I (dl := dl) hj
  rw [hd] at e
  simp at e
  exact ⟨(hb.block g h.row.lt).trans h.row, h.len, by rw [e]; exact h.fst, fun t h1 h2 => h.snd t (by omega) h2, by rw [e]; exact h.i_is, by have := h.lt; omega, hj, h.keeps.trans (Keeps.of_below hb)⟩
theorem Half_I.keep {w : World} {g cap : Nat} {dl : Int × Int → Bool} {l : List (Int × Int)} {i j : Nat} {wr wr' : World} {cur : List Value} (h : Half_I w g cap dl l i j wr cur) (hc : l.length ≤ cap) (hj : j < l.length) {x : Int} {n : Int} (hp : l[j] = (x, n)) (hd : dl l[j] = false) (hb : Below wr.heap.size wr wr') :
    Half_I w g cap dl l (i + 1) (j + 1) (wr'.setCells g (i * 2) (cellsOf ((.int .i64 x)) ++ [.int .i64 n])) (splice cur (i * 2) (cellsOf ((.int .i64 x)) ++ [.int .i64 n])) := by
  have e := keepL_take_I (dl := dl) hj
  rw [hd, hp] at e
  simp at e
  have hl := h.lt
  have hlen := h.len
  have hv : (cellsOf ((.int .i64 x)) ++ [Value.int .i64 n]).length = 2 := rfl
  have hr : Row ET_I wr' g cur := (hb.block g h.row.lt).trans h.row
  have hcz : l.length * 2 ≤ cap * 2 := Nat.mul_le_mul_right _ hc
  refine ⟨Row.setCells _ _ hr (by rw [hv]; omega), by rw [splice_len (by rw [hv]; omega), hlen], ?_, ?_, by rw [e]; simp; exact h.i_is, by omega, hj, setCells_keeps _ _ (h.keeps.trans (Keeps.of_below hb)) (.inl rfl)⟩
  · rw [e, show (i + 1) * 2 = i * 2 + (cellsOf ((.int .i64 x)) ++ [Value.int .i64 n]).length from by rw [hv]; omega, splice_mid (by omega), h.fst]
    simp [ent_I, flat_append, flat_one]
  · intro t h1 h2
    rw [splice_out (by rw [hv]; omega) (by omega)]
    exact h.snd t (by omega) h2

def DFPost_I (w : World) (B g cap : Nat) (dl : Int × Int → Bool) (l : List (Int × Int)) (e : Ending) (w' : World) : Prop :=
  e = .returned (.slice (some ⟨g, 0, none⟩) (keepL_I dl l).length cap) ∧ w'.ownsRow B ET_I 2 (.slice (some ⟨g, 0, none⟩) (keepL_I dl l).length cap) (keepL_I dl l).length (flat (ent_I (keepL_I dl l))) ∧ Keeps (fun x => x = g) w w'
theorem Half_I.done {w : World} {B g cap : Nat} {dl : Int × Int → Bool} {l : List (Int × Int)} {i : Nat} {wr : World} {cur : List Value} (h : Half_I w g cap dl l i l.length wr cur) (hB : B ≤ g) (hc : l.length ≤ cap) (hm : cap ≤ maxLen) (zs : List Value) (hz : zs.length = (l.length - i) * 2) :
    DFPost_I w B g cap dl l (.returned (.slice (some ⟨g, 0, none⟩) i cap)) (wr.setCells g (i * 2) zs) := by
  have hi := h.i_is
  rw [List.take_length] at hi
  have hf := h.fst
  rw [List.take_length] at hf
  have hl := h.lt
  have hlen := h.len
  have hcz : l.length * 2 ≤ cap * 2 := Nat.mul_le_mul_right _ hc
  refine ⟨by rw [hi], ?_, setCells_keeps _ _ h.keeps (.inl rfl)⟩
  rw [← hi]
  refine own_of_row (Row.setCells zs _ h.row (by rw [hz]; omega)) hB (by omega) hm (by rw [splice_len (by rw [hz]; omega), hlen]) ?_
  rw [splice_take (Nat.le_refl _) (by omega), hf]

set_option maxHeartbeats 2000000 in
set_option maxRecDepth 100000 in
theorem deleteFunc_I (w : World) (B g cap : Nat) (f : Nat) (lb : Array Value) (dl : Int × Int → Bool) (l : List (Int × Int)) (h4 : l.length ≤ 4096) (hown : w.ownsRow B ET_I 2 (.slice (some ⟨g, 0, none⟩) l.length cap) l.length (flat (ent_I l)))
    (ef : ∀ args w, (callFunc f args).run Try.prog w = .ok (.enter f args) w) (ht : Tells_I w g f lb dl l) :
    Calls Try.prog 54 #[.slice (some ⟨g, 0, none⟩) l.length cap, .func (.func f) #[] lb] w (DFPost_I w B g cap dl l) := by
  have hix := index_I w B g cap f lb dl l h4 hown ef ht
  obtain ⟨cur, hrow, hB, hnc, hcm, hcl, htk⟩ := row_of_own hown
  have hfl : (flat (ent_I l)).length = l.length * 2 := by rw [flat_len (ent_wide_I l), ent_len_I]
  have HT := Lib.hid ht
  have HIX := Lib.hid hix
  have HOWN := Lib.hid hown
  have HROW := Lib.hid hrow
  have HCL := Lib.hid hcl
  have HTK := Lib.hid htk
  have HFL := Lib.hid hfl
  have hglt := hrow.lt
  clear ht hix hown hrow hcl htk hfl
  go_enter Try.func54, Try.ntmps54
  go_wp2_with fail
  refine HIX.out.mono ?_
  rintro e w1 ⟨⟨k, hk, hall, (⟨hkl, rfl⟩ | ⟨hkl, hdk, rfl⟩)⟩, hb1⟩
  · have e1 : keepL_I dl l = l := by
      unfold keepL_I
      rw [List.filter_eq_self]
      intro p hp
      obtain ⟨j, hj, rfl⟩ := List.getElem_of_mem hp
      rw [hall j hj (by omega)]; rfl
    have HE := Lib.hid e1
    have HB1 := Lib.hid hb1
    clear e1 hall hb1
    go_wp2_with fail
    go_ret
    refine ⟨by rw [HE.out]; rfl, ?_, Keeps.of_below HB1.out⟩
    rw [HE.out]
    exact own_keeps (S := fun _ => False) HOWN.out (Keeps.of_below HB1.out) (fun _ _ k => k)
  · have e1 : keepL_I dl (l.take (k + 1)) = l.take k := by
      rw [keepL_take_I hkl, hdk]
      simp
      unfold keepL_I
      rw [List.filter_eq_self]
      intro p hp
      obtain ⟨j, hj, rfl⟩ := List.getElem_of_mem hp
      simp at hj
      rw [List.getElem_take, hall j (by omega) (by omega)]; rfl
    have hH : Half_I w g cap dl l k (k + 1) w1 cur := by
      refine ⟨(hb1.block g hglt).trans HROW.out, HCL.out, ?_, ?_, by rw [e1]; simp; omega, by omega, by omega, Keeps.of_below hb1⟩
      · have e2 : ent_I (l.take k) = (ent_I l).take k := by simp [ent_I, List.map_take]
        rw [e1, e2, ← flat_take (k := 1) (ent_wide_I l) k, ← HTK.out, List.take_take, Nat.min_eq_left (Nat.mul_le_mul_right _ hk)]
      · intro t _ h2
        rw [← HTK.out, List.getElem?_take, if_pos h2]
    have HH := Lib.hid hH
    have hne1 : ((k : Int) == -1) = false := beq_eq_false_iff_ne.2 (by omega)
    clear e1 hall hb1 hH hdk
    go_wp2_with fail
    go_loopg [5, 6, 7] l.length (fun gg s5 s6 _ wr => ∃ (i j : Nat) (cur : List Value), s5 = .int .i64 i ∧ s6 = .int .i64 j ∧ l.length - j ≤ gg ∧ Hid (Half_I w g cap dl l i j wr cur))
    case atStart => exact ⟨k, k + 1, cur, rfl, by go_num, by omega, HH⟩
    case round =>
      obtain ⟨i, j, cu, rfl, rfl, hgg, HF⟩ := hrel
      have hij := HF.out.lt
      have hjl := HF.out.le
      have hlen := HF.out.len
      by_cases hlt : j < l.length
      · have hc0 := row_cells_I HF.out.row hlt (fun t ht => HF.out.snd (j * 2 + t) (by omega) (by have := Nat.mul_le_mul_right 2 (show j + 1 ≤ l.length from hlt); omega))
        have hcall := fun W (hk : Keeps (fun x => x = g) w W) => HT.out W hk l[j] (List.getElem_mem hlt)
        obtain ⟨p, hp⟩ : ∃ p, l[j] = p := ⟨_, rfl⟩
        rw [hp] at hc0 hcall
        have HPK := Lib.hid hp
        obtain ⟨x, n⟩ := p
        simp only [CellsAt_I, val_I] at hc0 hcall
        obtain ⟨c0, c1⟩ := hc0
        have z0 : (0 : Int) ≤ (j : Int) := by omega
        have z1 : (j : Int) < (l.length : Int) := by omega
        have y0 : (0 : Int) ≤ (i : Int) := by omega
        have y1 : (i : Int) < (l.length : Int) := by omega
        have HKP := Lib.hid HF.out.keeps
        clear hp
        have hgw := HF.out.row.lt
        cases hd : dl (x, n) with
        | true =>
          rw [hd] at hcall
          have HCA := Lib.hid hcall
          have HD := Lib.hid hd
          clear hcall hd
          go_wp2_with fail
          refine (HCA.out _ (HKP.out.alloc _)).mono ?_
          rintro e w2 ⟨rfl, hb2⟩
          have HB2 := Lib.hid (((Below.refl wr.heap.size wr).alloc (Nat.le_refl _) (.cells #[(.int .i64 x), .int .i64 n] 94)).trans (hb2.mono (by simp)))
          clear hb2
          go_wp2_with fail
          go_roundg (l.length - (j + 1))
          case measure => omega
          case rel => exact ⟨i, j + 1, cu, rfl, by go_num, Nat.le_refl _, Lib.hid (HF.out.skip hlt (by rw [HPK.out]; exact HD.out) HB2.out)⟩
        | false =>
          rw [hd] at hcall
          have HCA := Lib.hid hcall
          have HD := Lib.hid hd
          clear hcall hd
          go_wp2_with fail
          refine (HCA.out _ (HKP.out.alloc _)).mono ?_
          rintro e w2 ⟨rfl, hb2⟩
          have hnew := (hb2.block wr.heap.size (by simp)).trans (heap_alloc_new wr (.cells #[(.int .i64 x), .int .i64 n] 94))
          have HB2 := Lib.hid (((Below.refl wr.heap.size wr).alloc (Nat.le_refl _) (.cells #[(.int .i64 x), .int .i64 n] 94)).trans (hb2.mono (by simp)))
          have d0 : w2.cell? ⟨wr.heap.size, 0, none⟩ = some ((.int .i64 x)) := by rw [cell_of_row _ _ _ _ _ _ hnew]; rfl
          have d1 : w2.cell? ⟨wr.heap.size, 1, none⟩ = some (.int .i64 n) := by rw [cell_of_row _ _ _ _ _ _ hnew]; rfl
          have hr2 : Row ET_I w2 g cu := (HB2.out.block g hgw).trans HF.out.row
          have q0 := hr2.cell (i * 2)
          have q1 := hr2.cell (i * 2 + 1)
          rw [List.getElem?_eq_getElem (by omega)] at q0 q1
          have p0 := hr2.free (i * 2)
          have p1 := hr2.free (i * 2 + 1)
          generalize cu[i * 2]'(by omega) = o0 at q0
          generalize cu[i * 2 + 1]'(by omega) = o1 at q1
          clear hb2 hnew hr2
          go_wp2_with fail
          go_roundg (l.length - (j + 1))
          case measure => omega
          case rel => exact ⟨i + 1, j + 1, _, by go_num, by go_num, Nat.le_refl _, Lib.hid (HF.out.keep hnc hlt HPK.out (by rw [HPK.out]; exact HD.out) HB2.out)⟩
      · obtain rfl : j = l.length := by omega
        have hclr : ∀ ty, (Builtin.clear_ #[41] ty #[.slice (some ⟨g, i * 2, none⟩) (l.length - i) (cap - i)]).run Try.prog wr = .ok (.tuple #[]) (wr.setCells g (i * 2) (zeros #[.int .i64 0, .int .i64 0] (l.length - i))) :=
          fun ty => run_clear_row wr _ _ ty (.agg #[.int .i64 0, .int .i64 0]) Try.underlying41 zeroEntry_I (by simp [Value.cells, Value.oneCell']) HF.out.row _ _ _ (by omega) (by rw [hlen]; simp [Value.cells]; omega)
        have HDN := Lib.hid (HF.out.done hB hnc hcm (zeros #[.int .i64 0, .int .i64 0] (l.length - i)) (by rw [zeros_len]; simp))
        have y0 : (0 : Int) ≤ (i : Int) := by omega
        have y1 : (i : Int) ≤ (l.length : Int) := by omega
        have y2 : ¬ i = cap := by omega
        go_wp2_with fail
        go_ret
        exact HDN.out
end Go.Proofs.Ytdpchojfgcjbeaa
