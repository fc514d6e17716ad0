/- The program's Keep of a queue of jobs: what its function refuses goes, the rest stays in order; the function may write variables of its own; no condition but those that each row names. -/
import Derived.Test.YtdpchojfgcjbeaaFKeep
import Derived.Test.YtdpchojfgcjbeaaFIndexJ
import Derived.Test.YtdpchojfgcjbeaaFEqJ
import Derived.Test.YtdpchojfgcjbeaaFCloneJ
import Derived.Maps.OwnSet
import Derived.Maps.OwnOps
import Derived.RangeFuncBox
namespace Go.Proofs.Ytdpchojfgcjbeaa
open Go.RowKit Go.Shelf Go.Maps

set_option maxHeartbeats 1000000 in
set_option maxRecDepth 100000 in
theorem keep1_J (W : World) (bx mb n : Nat) (D : DataW Unit) (hbx : Boxed W bx 97 (.map (some mb))) (hm : SetAt W mb n D) (p : Jb × Int) (hp : 1 ≤ p.2 ∧ p.2 ≤ 9223372036854775807) :
    Calls Try.prog 63 (#[val_J p] ++ #[.pointer (some ⟨bx, 0, none⟩)]) W fun e W' => e = .returned (.bool (Maps.has D (.int .i64 p.2))) ∧ Below W.heap.size W W' := by
  obtain ⟨x, z⟩ := p
  have hkey := key_int hp
  have cb := hbx.cell
  have hlt := hbx.lt
  have HM := Lib.hid hm
  have HK := Lib.hid hkey
  clear hm hbx hkey hp
  show Calls Try.prog 63 #[.agg #[.int .i64 x.a, .int .i64 x.b, .int .i64 x.c, .int .i64 x.d, .int .i64 z], .pointer (some ⟨bx, 0, none⟩)] W _
  go_enter Try.func63, Try.ntmps63
  go_wp2_with (at_lookup; refine wpList_lookup_own_unit _ rfl _ _ 97 rfl 3 100 keyLaw Try.underlying97 (zeroUnit _) mb n D rfl (HM.out.alloc _) _ _ rfl HK.out ?_)
  go_ret
  exact ⟨rfl, ((Below.refl _ W).alloc (Nat.le_refl _) _).alloc (by simp) _⟩

set_option maxHeartbeats 400000 in
theorem index_none_J (w : World) (p : Option Addr) (cap f : Nat) (lb : Array Value) :
    Calls Try.prog 76 #[.slice p 0 cap, .func (.func f) #[] lb] w fun e w' => e = .returned (.int .i64 (-1)) ∧ w = w' := by
  go_enter Try.func76, Try.ntmps76
  go_wp2_with fail
  refine wp_loop_rounds 1 ?_
  rw [rounds_succ]
  go_wp2_with fail
  go_ret
  exact ⟨rfl, rfl⟩
set_option maxHeartbeats 400000 in
theorem deleteFunc_none_J (w : World) (p : Option Addr) (cap f : Nat) (lb : Array Value) :
    Calls Try.prog 62 #[.slice p 0 cap, .func (.func f) #[] lb] w fun e w' => e = .returned (.slice p 0 cap) ∧ w = w' := by
  go_enter Try.func62, Try.ntmps62
  go_wp2_with fail
  refine (index_none_J w p cap f lb).mono ?_
  rintro e w1 ⟨rfl, rfl⟩
  go_wp2_with fail
  go_ret
  exact ⟨rfl, rfl⟩

/-- The numbers that are refused among the first i. -/
def refs_J (pk : Jb → Bool) (l : List (Jb × Int)) : List Lit := (l.filter fun p => !pk p.1).map fun p => Lit.int .i64 p.2
theorem refs_snoc_J {pk : Jb → Bool} {l : List (Jb × Int)} {i : Nat} (hi : i < l.length) : refs_J pk (l.take (i + 1)) = refs_J pk (l.take i) ++ (if pk l[i].1 then [] else [Lit.int .i64 l[i].2]) := by
  unfold refs_J
  rw [List.take_add_one, List.getElem?_eq_getElem hi, List.filter_append]
  cases hd : pk l[i].1 <;> simp [hd]
theorem has_refs_J {pk : Jb → Bool} {l : List (Jb × Int)} (hnd : (l.map (·.2)).Nodup) {p : Jb × Int} (hp : p ∈ l) : Maps.has (setOf unitD (refs_J pk l)) (.int .i64 p.2) = !pk p.1 := by
  rw [has_setOf _ _ _ (fun x hx => by
    unfold refs_J at hx
    obtain ⟨q, _, rfl⟩ := List.mem_map.1 hx
    trivial)]
  unfold refs_J
  rw [List.any_map]
  cases hk : pk p.1 with
  | false =>
    rw [Bool.not_false, List.any_eq_true]
    exact ⟨p, by simp [List.mem_filter, hp, hk], by simp [Lit.sameKey]⟩
  | true =>
    rw [Bool.not_true, List.any_eq_false]
    intro q hq
    obtain ⟨hq1, hq2⟩ := List.mem_filter.1 hq
    intro hs
    have e : q.2 = p.2 := by simpa [Lit.sameKey] using hs
    have hqp : q = p := by
      obtain ⟨i, hi, rfl⟩ := List.getElem_of_mem hq1
      obtain ⟨j, hj, rfl⟩ := List.getElem_of_mem hp
      have := List.pairwise_iff_getElem.1 hnd
      rcases Nat.lt_trichotomy i j with h | h | h
      · exact absurd (by rw [List.getElem_map, List.getElem_map]; exact e) (this i j (by simpa using hi) (by simpa using hj) h)
      · subst h; rfl
      · exact absurd (by rw [List.getElem_map, List.getElem_map]; exact e.symm) (this j i (by simpa using hj) (by simpa using hi) h)
    rw [hqp, hk] at hq2
    simp at hq2
theorem keepL_refs_J {pk : Jb → Bool} {l : List (Jb × Int)} (hnd : (l.map (·.2)).Nodup) : keepL_J (fun p => Maps.has (setOf unitD (refs_J pk l)) (.int .i64 p.2)) l = l.filter fun p => pk p.1 := by
  unfold keepL_J
  refine List.filter_congr fun p hp => ?_
  have e := has_refs_J (pk := pk) hnd hp
  show (!Maps.has (setOf unitD (refs_J pk l)) (.int .i64 p.2)) = pk p.1
  rw [e]
  simp

/-- What is asked of the function: it tells of the i-th element whether it stays; it may write blocks of JS, of which alone J speaks. -/
structure KeepFn_J (w : World) (f : Nat) (lb : Array Value) (pk : Jb → Bool) (JS : Nat → Prop) (J : Nat → World → Prop) (l : List (Jb × Int)) : Prop where
  call : ∀ i (hi : i < l.length) W, J i W → Calls Try.prog f (#[(.agg #[.int .i64 l[i].1.a, .int .i64 l[i].1.b, .int .i64 l[i].1.c, .int .i64 l[i].1.d])] ++ lb) W (GivesBJ (fun W' => J (i + 1) W' ∧ Keeps JS W W') (pk l[i].1))
  stay : ∀ i W W', J i W → Keeps (fun x => ¬ JS x) W W' → J i W'
  low : ∀ x, JS x → x < w.heap.size

/-- Between two rounds. -/
structure KRel_J (w w1 : World) (pk : Jb → Bool) (JS : Nat → Prop) (J : Nat → World → Prop) (l : List (Jb × Int)) (p2 : Option Addr) (c2 i : Nat) (wr : World) : Prop where
  le : i ≤ l.length
  j : J i wr
  set : SetAt wr w.heap.size i (setOf unitD (refs_J pk (l.take i)))
  box : Boxed wr (w.heap.size + 1) 97 (.map (some w.heap.size))
  own : wr.ownsRow (w.heap.size + 2) ET_J 5 (.slice p2 l.length c2) l.length (flat (ent_J l))
  keeps : Keeps JS w wr
  size : w.heap.size + 2 ≤ wr.heap.size
theorem KRel_J.next {w w1 : World} {pk : Jb → Bool} {JS : Nat → Prop} {J : Nat → World → Prop} {l : List (Jb × Int)} {p2 : Option Addr} {c2 i : Nat} {wr wr' : World} (h : KRel_J w w1 pk JS J l p2 c2 i wr) (hlow : ∀ x, JS x → x < w.heap.size) (hi : i < l.length) (hj : J (i + 1) wr')
    (hset : SetAt wr' w.heap.size (i + 1) (setOf unitD (refs_J pk (l.take (i + 1))))) (hk : Keeps (fun x => JS x ∨ x = w.heap.size) wr wr') : KRel_J w w1 pk JS J l p2 c2 (i + 1) wr' := by
  have hn : ∀ x, w.heap.size + 1 ≤ x → ¬ (JS x ∨ x = w.heap.size) := fun x hx h => by rcases h with h | h; have := hlow x h; omega; omega
  refine ⟨hi, hj, hset, (hk.block _ h.box.lt (hn _ (Nat.le_refl _))).trans h.box, own_keeps h.own hk (fun g e => hn g (by have := (h.own.lt g e).1; omega)), ?_, Nat.le_trans h.size hk.size⟩
  exact ⟨hk.os.trans h.keeps.os, hk.tape.trans h.keeps.tape, hk.output.trans h.keeps.output, Nat.le_trans h.keeps.size hk.size, fun x hx hnx => (hk.block x (Nat.lt_of_lt_of_le hx h.keeps.size) (fun e => by rcases e with e | e; exact hnx e; omega)).trans (h.keeps.block x hx hnx)⟩

theorem fn_eqIn_J (w : World) (d f : Nat) (lb : Array Value) : (Op.equalIn (d + 1) 75 (.func (.func f) #[] lb) .nilFunc).run Try.prog w = .ok false w := by
  simp [Op.equalIn, run_underlying Try.underlying75]
theorem fn_ne_J (w : World) (f : Nat) (lb : Array Value) : (binOp .eql 75 (.func (.func f) #[] lb) .nilFunc).run Try.prog w = .ok (.bool false) w := by
  simp only [binOp]
  simp [Op.equal, Op.maxDepth, fn_eqIn_J w 9999 f lb]
def KeepPost_J (w : World) (B : Nat) (A : Qu) (b : Nat) (s : Value) (pk : Jb → Bool) (JS : Nat → Prop) (J : Nat → World → Prop) (l : List (Jb × Int)) (e : Ending) (w' : World) : Prop :=
  e = .returned (.int .i64 ((l.length : Int) - (l.filter fun p => pk p.1).length)) ∧ J l.length w' ∧
    ∃ s', PQ QT_J ET_J 4 B w' { A with l := ent_J (l.filter fun p => pk p.1) } b s' ∧ Keeps (fun x => JS x ∨ x = b ∨ s.ownBlock = some x) w w' ∧ s'.ownBlock = s.ownBlock

set_option maxHeartbeats 4000000 in
set_option maxRecDepth 100000 in
theorem keep_J (w : World) (B : Nat) (A : Qu) (b : Nat) (s : Value) (f : Nat) (lb : Array Value) (pk : Jb → Bool) (JS : Nat → Prop) (J : Nat → World → Prop) (l : List (Jb × Int)) (hA : A.Good 4) (hlast : A.last ≤ 9223372036854775807) (h : PQ QT_J ET_J 4 B w A b s) (hl : A.l = ent_J l)
    (ef : ∀ args w, (callFunc f args).run Try.prog w = .ok (.enter f args) w) (hf : KeepFn_J w f lb pk JS J l) (hb : ¬ JS b) (hs : ∀ g, s.ownBlock = some g → ¬ JS g) (h0 : J 0 w) :
    Calls Try.prog 33 #[.pointer (some ⟨b, 0, none⟩), .func (.func f) #[] lb] w (KeepPost_J w B A b s pk JS J l) := by
  have hmm := @run_makeMap Try.prog
  have hfn := fun w => fn_ne_J w f lb
  have e1 : A.l.length = l.length := by rw [hl, ent_len_J]
  have h4 : l.length ≤ 4096 := by rw [← e1]; exact hA.n4
  have hnd : (l.map (·.2)).Nodup := by have := hA.nd; rw [hl] at this; unfold ent_J at this; rw [List.map_map] at this; exact this
  have hnum : ∀ p ∈ l, 1 ≤ p.2 ∧ p.2 ≤ 9223372036854775807 := fun p hp => by
    have := hA.nums ((.agg #[.int .i64 p.1.a, .int .i64 p.1.b, .int .i64 p.1.c, .int .i64 p.1.d]), p.2) (by rw [hl]; exact List.mem_map.2 ⟨p, hp, rfl⟩)
    simp at this; omega
  have hlow := hf.low
  have W1 : ∃ w1, w1 = (w.alloc (.map #[] 0)).alloc (.cells #[.map (some w.heap.size)] 97) := ⟨_, rfl⟩
  obtain ⟨w1, hw1⟩ := W1
  have hb1 : Below w.heap.size w w1 := by rw [hw1]; exact ((Below.refl _ w).alloc (Nat.le_refl _) _).alloc (by simp) _
  have hz1 : w1.heap.size = w.heap.size + 2 := by rw [hw1]; simp
  have hq1 := h.below hb1
  have hcl : Calls Try.prog 59 #[s] ((w.alloc (.map #[] 0)).alloc (.cells #[.map (some w.heap.size)] 97)) fun e w' =>
      ∃ p cap, e = .returned (.slice p l.length cap) ∧ w'.ownsRow (w.heap.size + 2) ET_J 5 (.slice p l.length cap) l.length (flat (ent_J l)) ∧ Below w1.heap.size w1 w' := by
    rw [← hw1]
    refine (clone_J w1 B A.l (by rw [hl]; exact ent_wide_J l) hA.n4 s hq1.own).mono ?_
    rintro e w' ⟨p, c, rfl, ho, hb⟩
    rw [e1, hl, hz1] at ho
    exact ⟨p, c, by rw [e1], ho, hb⟩
  have HCL := Lib.hid hcl
  have HQ1 := Lib.hid hq1
  have HB1 := Lib.hid hb1
  have HW1 := Lib.hid hw1
  have HZ1 := Lib.hid hz1
  have HL := Lib.hid hl
  have HE1 := Lib.hid e1
  have HND := Lib.hid hnd
  have HNUM := Lib.hid hnum
  have HF := Lib.hid hf
  have HA := Lib.hid hA
  have HP := Lib.hid h
  have HNB := Lib.hid hb
  have HNS := Lib.hid hs
  have H0 := Lib.hid h0
  have f1 := hq1.f1
  rw [hw1] at f1
  clear hq1 hcl hb1 hz1 hl e1 hnd hnum hf hA h hb hs h0
  go_enter Try.func33, Try.ntmps33
  go_wp2_with fail
  refine HCL.out.mono ?_
  rintro e w2 ⟨p2, c2, rfl, ho, hb2⟩
  have hK0 : KRel_J w w1 pk JS J l p2 c2 0 w2 := by
    have hbb : Below w.heap.size w w2 := HB1.out.trans (hb2.mono HB1.out.size)
    have hmm1 : w1.heap[w.heap.size]? = some (.map #[] 0) := by rw [HW1.out]; exact (Below.heap_alloc _ _ _ (by simp)).trans (World.alloc_heap_new w _)
    have hbx1 : Boxed w1 (w.heap.size + 1) 97 (.map (some w.heap.size)) := by
      have := Boxed.new (w.alloc (.map #[] 0)) 97 (.map (some w.heap.size))
      rw [World.size_alloc] at this
      rw [HW1.out]; exact this
    refine ⟨Nat.zero_le _, HF.out.stay 0 w w2 H0.out (Keeps.of_below hbb), ?_, (hb2.block _ hbx1.lt).trans hbx1, ho, Keeps.of_below hbb, by have := hb2.size; rw [HZ1.out] at this; exact this⟩
    have hm0 : SetAt (w.alloc (.map #[] 0)) w.heap.size 0 (.map []) := World.ownsMap_made w _ _ _
    refine SetAt.same hm0 ((hb2.block _ (lt_of_block hmm1)).trans (hmm1.trans (World.alloc_heap_new w _).symm))
  have HK0 := Lib.hid hK0
  clear hK0 ho hb2
  go_wp2_with fail
  go_loopg [7, 22] l.length (fun gg _ i wr => ∃ k : Nat, i = .int .i64 k ∧ l.length - k ≤ gg ∧ Hid (KRel_J w w1 pk JS J l p2 c2 k wr))
  case atStart => exact ⟨0, rfl, by omega, HK0⟩
  case round =>
    obtain ⟨k, rfl, hgg, HR⟩ := hrel
    have hk := HR.out.le
    by_cases hlt : k < l.length
    · obtain ⟨g2, cc, hf2, hg2, hg3⟩ := HR.out.own.form (by omega)
      cases hf2
      obtain ⟨cur, hrow, _, _, _, _, htk⟩ := row_of_own HR.out.own
      have hc0 := row_cells_J hrow hlt (fun t ht => by rw [← htk, List.getElem?_take, if_pos (by have := Nat.mul_le_mul_right 5 (show k + 1 ≤ l.length from hlt); omega)])
      have hcall := HF.out.call k hlt
      have hsn := refs_snoc_J (pk := pk) hlt
      have hnn := HNUM.out l[k] (List.getElem_mem hlt)
      obtain ⟨p, hp⟩ : ∃ p, l[k] = p := ⟨_, rfl⟩
      rw [hp] at hc0 hcall hsn hnn
      obtain ⟨x, n⟩ := p
      simp only [CellsAt_J] at hc0
      obtain ⟨c0, c1, c2, c3, c4⟩ := hc0
      have HSN := Lib.hid hsn
      have HNN := Lib.hid hnn
      have hgw : g2 < wr.heap.size := hg3
      have z0 : (0 : Int) ≤ (k : Int) := by omega
      have z1 : (k : Int) < (l.length : Int) := by omega
      have hJ1 := HF.out.stay k wr ((wr.alloc (.cells #[.int .i64 x.a, .int .i64 x.b, .int .i64 x.c, .int .i64 x.d, .int .i64 n] 108)).alloc (.cells #[.int .i64 x.a, .int .i64 x.b, .int .i64 x.c, .int .i64 x.d] 72)) HR.out.j (Keeps.of_below (((Below.refl _ wr).alloc (Nat.le_refl _) _).alloc (by simp) _))
      have HRF := Lib.hid (refuses_J f lb x _ _ (pk x) ef (hcall _ hJ1))
      have hkey := key_int hnn
      have HKEY := Lib.hid hkey
      clear hp hcall hsn hnn hrow htk hJ1 hkey
      cases hpk : pk x with
      | true =>
        rw [hpk] at HRF
        have HPK := Lib.hid hpk
        clear hpk
        go_wp2_with fail
        refine HRF.out.mono ?_
        rintro e w3 ⟨rfl, hj3, hk3⟩
        have hk3' : Keeps JS wr w3 := ((Keeps.of_below (((Below.refl _ wr).alloc (Nat.le_refl _) _).alloc (by simp) _)).trans hk3)
        have hnx := HR.out.next hlow hlt hj3 (SetAt.same (HR.out.set.mono (Nat.le_succ k)) (hk3'.block _ (by have := HR.out.size; omega) (fun e => by have := hlow _ e; omega)) |> fun h => by rw [HSN.out, HPK.out]; simpa using h) (hk3'.mono (fun _ => .inl))
        have HNX := Lib.hid hnx
        clear hj3 hk3 hk3' hnx
        go_wp2_with fail
        go_roundg (l.length - (k + 1))
        case measure => omega
        case rel => exact ⟨k + 1, by go_num, Nat.le_refl _, HNX⟩
      | false =>
        rw [hpk] at HRF
        have HPK := Lib.hid hpk
        clear hpk
        go_wp2_with fail
        refine HRF.out.mono ?_
        rintro e w3 ⟨rfl, hj3, hk3⟩
        have hk3' : Keeps JS wr w3 := ((Keeps.of_below (((Below.refl _ wr).alloc (Nat.le_refl _) _).alloc (by simp) _)).trans hk3)
        have hnew := (hk3.block wr.heap.size (by simp; omega) (fun e => by have := hlow _ e; have := HR.out.size; omega)).trans ((heap_alloc_old (wr.alloc (.cells #[.int .i64 x.a, .int .i64 x.b, .int .i64 x.c, .int .i64 x.d, .int .i64 n] 108)) _ (by simp)).trans (heap_alloc_new wr (.cells #[.int .i64 x.a, .int .i64 x.b, .int .i64 x.c, .int .i64 x.d, .int .i64 n] 108)))
        have d1 : w3.cell? ⟨wr.heap.size, 4, none⟩ = some (.int .i64 n) := by rw [cell_of_row _ _ _ _ _ _ hnew]; rfl
        have hbx3 : Boxed w3 (w.heap.size + 1) 97 (.map (some w.heap.size)) := (hk3'.block _ HR.out.box.lt (fun e => by have := hlow _ e; omega)).trans HR.out.box
        have cb3 := hbx3.cell
        have HS3 := Lib.hid (SetAt.same HR.out.set (hk3'.block _ (by have := HR.out.size; omega) (fun e => by have := hlow _ e; omega)))
        have HJ3 := Lib.hid hj3
        have HK3 := Lib.hid hk3'
        clear hj3 hk3 hk3' hnew hbx3
        go_wp2_with (at_mapUpdate; refine wpList_mapUpdate_own _ rfl _ _ _ 97 rfl 3 100 keyLaw Try.underlying97 (unitElem (H := Unit)) w.heap.size k _ rfl HS3.out (by unfold maxLen; omega) _ _ _ rfl rfl HKEY.out _ [] unitElem_mk ?_; intro w4 hown4 hgrow4; have HO4 := Lib.hid hown4; have HG4 := Lib.hid hgrow4; clear hown4 hgrow4)
        go_roundg (l.length - (k + 1))
        case measure => omega
        case rel =>
          refine ⟨k + 1, by go_num, Nat.le_refl _, Lib.hid (HR.out.next hlow hlt (HF.out.stay _ w3 w4 HJ3.out ((Keeps.refl _ w3).grown HG4.out (fun j e => by cases e; exact .inl (fun h => by have := hlow _ h; omega)))) ?_ ((HK3.out.mono (fun _ => .inl)).grown HG4.out (fun j e => by cases e; exact .inl (.inr rfl))))⟩
          rw [HSN.out, HPK.out]
          simp only [Bool.false_eq_true, if_false]
          rw [setOf_snoc]
          exact HO4.out
    · obtain rfl : k = l.length := by omega
      have hset := HR.out.set
      rw [List.take_length] at hset
      have HSET := Lib.hid hset
      have hqr := HP.out.keeps HR.out.keeps HNB.out HNS.out
      have HQR := Lib.hid hqr
      have f1r := hqr.f1
      have hbr := hqr.lt
      clear hset hqr
      by_cases hn : 0 < l.length
      · obtain ⟨g, cap, hsf, hBg, hgl, hgb⟩ := HP.out.form (by rw [HE1.out]; exact hn)
        rw [HE1.out] at hsf
        have hown := HQR.out.own
        rw [hsf, HE1.out, HL.out] at hown
        have hdf := deleteFunc_J wr B g cap 63 #[.pointer (some ⟨w.heap.size + 1, 0, none⟩)] (fun p => Maps.has (setOf unitD (refs_J pk l)) (.int .i64 p.2)) l h4 hown (enters_of Try.func63 (by kernel_rfl) rfl)
          (fun W hk p hp => keep1_J W (w.heap.size + 1) w.heap.size l.length _ ((hk.block _ HR.out.box.lt (fun e => by omega)).trans HR.out.box) (SetAt.same HSET.out (hk.block _ (by have := HR.out.size; omega) (fun e => by omega))) p (HNUM.out p hp))
        unfold DFPost_J at hdf
        rw [keepL_refs_J HND.out] at hdf
        have hle : (l.filter fun p => pk p.1).length ≤ l.length := List.length_filter_le _ _
        obtain ⟨m, hm⟩ : ∃ m, (l.filter fun p => pk p.1).length = m := ⟨_, rfl⟩
        rw [hm] at hdf hle
        have HM := Lib.hid hm
        have HDF := Lib.hid hdf
        have HSF := Lib.hid hsf
        rw [hsf] at f1r
        clear hown hdf hm hsf
        go_wp2_with fail
        refine (len_cc_J HQR.out HE1.out).mono ?_
        rintro e w4 ⟨rfl, rfl⟩
        go_wp2_with fail
        refine HDF.out.mono ?_
        rintro e w5 ⟨rfl, ho5, hk5⟩
        have hks : Keeps (fun x => s.ownBlock = some x) wr w5 := hk5.mono (fun x e => by subst e; rw [HSF.out]; rfl)
        obtain ⟨c5, y5⟩ := HQR.out.relaid_cell hks
        rw [HSF.out] at c5
        have hq5 := HQR.out.relaid (l' := ent_J (l.filter fun p => pk p.1)) (s' := .slice (some ⟨g, 0, none⟩) m cap) hks (by rw [ent_len_J, HM.out]; exact ho5) (by rw [HSF.out]; rfl)
        have HQ5 := Lib.hid hq5
        have hlt5 : b < w5.heap.size := Nat.lt_of_lt_of_le hbr hk5.size
        have HK5 := Lib.hid hk5
        have HKS := Lib.hid hks
        clear ho5 hk5 hks hq5
        go_wp2_with fail
        refine (len_cc_J (c := m) HQ5.out (by show (ent_J _).length = m; rw [ent_len_J, HM.out])).mono ?_
        rintro e w6 ⟨rfl, rfl⟩
        go_wp2_with fail
        go_ret
        refine ⟨by rw [HM.out]; rfl, HF.out.stay _ wr _ HR.out.j ((HK5.out.mono (fun x e h => by subst e; exact HNS.out x (by rw [HSF.out]; rfl) h)).setCell ⟨b, 1, none⟩ _ (.inl HNB.out)), _, HQ5.out, ?_, by rw [HSF.out]; rfl⟩
        exact ((HR.out.keeps.mono (fun _ => .inl)).trans (HKS.out.mono (fun _ e => .inr (.inr e)))).setCell ⟨b, 1, none⟩ _ (.inl (.inr (.inl rfl)))
      · have hl0 : l = [] := List.eq_nil_of_length_eq_zero (by omega)
        obtain ⟨p, cap, hsf⟩ := HP.out.shape
        rw [HE1.out, hl0] at hsf
        have HSF := Lib.hid hsf
        have HL0 := Lib.hid hl0
        have e0 : l.length = 0 := by rw [hl0]; rfl
        have HE0 := Lib.hid e0
        have hdf := deleteFunc_none_J wr p cap 63 #[.pointer (some ⟨w.heap.size + 1, 0, none⟩)]
        have HDF := Lib.hid hdf
        have hlen0 : A.l.length = 0 := by rw [HE1.out, e0]
        have HLN := Lib.hid hlen0
        rw [hsf] at f1r
        have c5 := HQR.out.fz 1
        have hq5 := HQR.out.relaid (l' := A.l) (s' := s) ((Keeps.refl _ wr)) HQR.out.own rfl
        have HQ5 := Lib.hid hq5
        clear hdf hsf hl0 e0 hlen0 hq5
        go_wp2_with fail
        refine (len_cc_J HQR.out HLN.out).mono ?_
        rintro e w4 ⟨rfl, rfl⟩
        go_wp2_with fail
        refine HDF.out.mono ?_
        rintro e w5 ⟨rfl, rfl⟩
        go_wp2_with fail
        refine (len_cc_J (s := s) (by rw [HSF.out] at HQ5 ⊢; exact HQ5.out) HLN.out).mono ?_
        rintro e w6 ⟨rfl, rfl⟩
        go_wp2_with fail
        go_ret
        refine ⟨by rw [HL0.out]; rfl, HF.out.stay _ wr _ HR.out.j ((Keeps.refl _ wr).setCell ⟨b, 1, none⟩ _ (.inl HNB.out)), s, ?_, ?_, rfl⟩
        · have e2 : A.l = ent_J (l.filter fun p => pk p.1) := by rw [HL.out, HL0.out]; rfl
          rw [← e2]
          rw [HSF.out] at HQ5 ⊢
          exact HQ5.out
        · exact (HR.out.keeps.mono (fun _ => .inl)).setCell ⟨b, 1, none⟩ _ (.inl (.inr (.inl rfl)))
end Go.Proofs.Ytdpchojfgcjbeaa
