/- The document's own reading of a text (package titheref01: Read), at every text: what rreadV says of its bytes. -/
import Derived.Test.YtlhgopdlpjmbhaaDoorText
import Derived.Test.YtlhgopdlpjmbhaaDoorRMath
import Derived.Maps.AppendAt
namespace Go.Proofs.YtlhgopdlpjmbhaaDoor
open Go.RowKit

theorem Tryd.info3 : (Tryd.prog.info? 3).map (fun i => (i.zero, i.size, i.bytes)) = some (some (.int .i64 0), 1, 8) := by kernel_rfl

def icells (l : List Nat) : List Value := l.map fun (d : Nat) => .int .i64 (d : Int)
/-- v is a slice of the call's own that holds the numbers ds. -/
def OwnI (base : Nat) (w : World) (v : Value) (ds : List Nat) : Prop := w.ownsRow base 3 1 v ds.length (icells ds)

theorem ownI_nil (base : Nat) (w : World) : OwnI base w (.slice none 0 0) [] := World.ownsRow_nil _ _ _ _
theorem ownI_shape {base : Nat} {w : World} {v : Value} {ds : List Nat} (h : OwnI base w v ds) (hx : 0 < ds.length) :
    ∃ g cap, v = .slice (some ⟨g, 0, none⟩) ds.length cap := by
  obtain ⟨h1, h2⟩ := h
  rcases h2 with ⟨_, h2⟩ | ⟨g, cap, cur, hv, _⟩
  · omega
  · exact ⟨g, cap, hv⟩
theorem ownI_next {base : Nat} {w : World} {v : Value} {ds : List Nat} {x : Int} (d : Nat) (hx : x = (d : Int))
    (h : w.ownsRow base 3 1 v (ds.length + 1) (icells ds ++ [.int .i64 x])) : OwnI base w v (ds ++ [d]) := by
  subst hx
  unfold OwnI
  rw [List.length_append, show icells (ds ++ [d]) = icells ds ++ [.int .i64 (d : Int)] by unfold icells; rw [List.map_append]; rfl]
  exact h

/-- The bytes of a text that begins with "0.". -/
theorem at_byte (s : ByteArray) (bs : List UInt8) (hs : s.toList = 48 :: 46 :: bs) (i : Nat) (h2 : 2 ≤ i) (hi : i < s.size) : bs[i - 2]? = some s[i] := by
  have e : s.toList[i]? = some s[i] := by
    rw [ByteArray.toList_eq]
    rw [Array.getElem?_toList]
    exact Array.getElem?_eq_getElem (by simpa using hi)
  rw [hs] at e
  obtain ⟨k, rfl⟩ : ∃ k, i = k + 2 := ⟨i - 2, by omega⟩
  simpa using e

def resV (o : Option Nat) : Ending := match o with
  | some n => .returned (.tuple #[.int .i64 (n : Int), .int .i64 0])
  | none => .returned (.tuple #[.int .i64 0, .int .i64 4])

theorem take_dig {bs : List UInt8} {k : Nat} {b : UInt8} (h : bs[k]? = some b) : (bs.take (k + 1)).map dig = (bs.take k).map dig ++ [dig b] ∧ (bs.take (k + 1)).all isD = ((bs.take k).all isD && isD b) := by
  rw [List.take_add_one, h]
  simp [List.map_append, List.all_append]

theorem core_no {bs : List UInt8} {k : Nat} {b : UInt8} (h : bs[k]? = some b) (hb : isD b = false) : core bs = none := by
  unfold core
  rw [if_neg]
  intro hall
  have := List.all_eq_true.1 hall b (List.mem_of_getElem? h)
  rw [hb] at this
  cases this
theorem isD_lo {b : UInt8} (h : (b.toNat : Int) < 48) : isD b = false := by unfold isD; exact decide_eq_false (by omega)
theorem isD_hi {b : UInt8} (h : (57 : Int) < b.toNat) : isD b = false := by unfold isD; exact decide_eq_false (by omega)
theorem isD_yes {b : UInt8} (h : ¬ (b.toNat : Int) < 48) (g : ¬ (57 : Int) < b.toNat) : isD b = true := by unfold isD; exact decide_eq_true (by omega)
theorem dig_int {b : UInt8} (h : ¬ (b.toNat : Int) < 48) : ((b.toNat : Int) - 48) = (dig b : Nat) := by unfold dig; omega
theorem ret_no {o : Option Nat} (h : o = none) : Ending.returned (.tuple #[.int .i64 0, .int .i64 4]) = resV o := by rw [h]; rfl
theorem ret_yes {o : Option Nat} {n : Nat} (h : o = some n) : Ending.returned (.tuple #[.int .i64 (n : Int), .int .i64 0]) = resV o := by rw [h]; rfl

/-- A fact that no tactic opens (a search for contradictions would unfold what Hid holds). -/
structure Box (p : Prop) : Prop where out : p

/-- The row from g on, of L numbers, is the call's own and holds ds. -/
def OwnL (base : Nat) (w : World) (g L cap : Nat) (ds : List Nat) : Prop := base ≤ g ∧ ds.length = L ∧ w.ownsRow base 3 1 (.slice (some ⟨g, 0, none⟩) L cap) L (icells ds)
theorem ownL_of {base : Nat} {w : World} {g cap : Nat} {ds : List Nat} (h : OwnI base w (.slice (some ⟨g, 0, none⟩) ds.length cap) ds) : OwnL base w g ds.length cap ds :=
  ⟨(World.ownsRow.lt h g rfl).1, rfl, h⟩
theorem ownL_cell {base : Nat} {w : World} {g L cap : Nat} {ds : List Nat} (h : OwnL base w g L cap ds) {m d : Nat} (hd : ds[m]? = some d) : w.cell? ⟨g, m, none⟩ = some (.int .i64 (d : Int)) := by
  obtain ⟨_, hl, hx⟩ := h
  have hm : m < ds.length := (List.getElem?_eq_some_iff.1 hd).1
  rw [hx.cellAt m (by omega)]
  unfold icells
  rw [List.getElem?_map, hd]
  rfl
theorem ownL_free {base : Nat} {w : World} {g L cap : Nat} {ds : List Nat} (h : OwnL base w g L cap ds) (m : Nat) : w.frozen? ⟨g, m, none⟩ = false := h.2.2.frozenAt m
theorem ownL_set {base : Nat} {w : World} {g L cap : Nat} {ds : List Nat} (h : OwnL base w g L cap ds) (m n : Nat) (x : Int) (hx : x = (n : Int)) : OwnL base (w.setCell ⟨g, m, none⟩ (.int .i64 x)) g L cap (ds.set m n) := by
  subst hx
  obtain ⟨hb, hl, ho⟩ := h
  have h2 := (ho.stored m (.int .i64 (n : Int))).1
  refine ⟨hb, by simpa using hl, ?_⟩
  rw [show icells (ds.set m n) = (icells ds).set m (.int .i64 (n : Int)) by unfold icells; rw [List.map_set]]
  exact h2

/-- The place that a slot holds: one below m; -1 where m is 0. -/
def Slot (v : Value) (m : Nat) : Prop := v = .int .i64 ((m : Int) - 1)

theorem inner_step (ds cur : List Nat) (p d c : Nat) (hd : ds[p]? = some d) (hc : c = (dbl (ds.drop (p + 1))).1) (hcur : cur = ds.take (p + 1) ++ (dbl (ds.drop (p + 1))).2) :
    cur[p]? = some d ∧ cur.set p ((2 * d + c) % 10) = ds.take p ++ (dbl (ds.drop p)).2 ∧ (2 * d + c) / 10 = (dbl (ds.drop p)).1 := by
  have hp : p < ds.length := (List.getElem?_eq_some_iff.1 hd).1
  have hdp : ds.drop p = d :: ds.drop (p + 1) := by
    rw [List.drop_eq_getElem_cons hp]
    congr 1
    exact (List.getElem?_eq_some_iff.1 hd).2
  have htk : ds.take (p + 1) = ds.take p ++ [d] := by rw [List.take_add_one, hd]; rfl
  have hlen : (ds.take p).length = p := by rw [List.length_take]; omega
  rw [hdp]
  simp only [dbl]
  rw [← hc]
  rw [htk, List.append_assoc] at hcur
  generalize ds.take p = a at *
  generalize (dbl (ds.drop (p + 1))).2 = b at *
  subst hcur
  refine ⟨?_, ?_, rfl⟩
  · rw [List.getElem?_append_right (by omega), hlen]; simp
  · rw [List.set_append_right _ _ (by omega), hlen]; simp

theorem n_next {k n c : Nat} (h : n < 2 ^ k) (hc : c ≤ 1) (hk : k < 20) : 2 * n + c < 2 ^ (k + 1) ∧ 2 * n + c ≤ 1048576 := by
  have h1 : 2 * n + c < 2 ^ (k + 1) := by rw [Nat.pow_succ]; omega
  have h2 : 2 ^ (k + 1) ≤ 2 ^ 20 := Nat.pow_le_pow_right (by omega) (by omega)
  have e : (2 : Nat) ^ 20 = 1048576 := rfl
  exact ⟨h1, by omega⟩
theorem bits_next {k : Nat} (ds : List Nat) (n : Nat) (hk : k < 20) : bits (20 - k) ds n = bits (20 - (k + 1)) (dbl ds).2 (2 * n + (dbl ds).1) := by
  obtain ⟨j, hj⟩ : ∃ j, 20 - k = j + 1 := ⟨19 - k, by omega⟩
  rw [hj, show 20 - (k + 1) = j by omega]
  rfl
theorem fin_end {ds cur : List Nat} {n : Nat} (h : bits 20 ds 0 = (cur, n)) : fin ds = if zerosB cur then some n else none := by
  unfold fin
  rw [h]
theorem bits_end (k : Nat) (cur : List Nat) (n : Nat) (hk : k = 20) : bits (20 - k) cur n = (cur, n) := by
  subst hk
  rfl
theorem zeros_hit {l r : List Nat} {x : Nat} (h : l = x :: r) (hx : x ≠ 0) : zerosB l = false := by subst h; simp [zerosB, hx]
theorem zeros_miss {l r : List Nat} {x : Nat} (h : l = x :: r) (hx : x = 0) : zerosB l = zerosB r := by subst h; simp [zerosB, hx]

set_option maxHeartbeats 4000000 in
set_option maxRecDepth 100000 in
theorem rread_core (s : ByteArray) (w : World) (bs : List UInt8) (h3 : 3 ≤ s.size) (h22 : s.size ≤ 22) (hs : s.toList = 48 :: 46 :: bs) (hlast : (↑s[s.size - 1].toNat == (48 : Int)) = false) :
    Calls Tryd.prog 26 #[.string s] w fun e w' => e = resV (core bs) ∧ Below w.heap.size w w' := by
  obtain ⟨i0, hi, hz0, hz1, hz2⟩ := info_parts Tryd.info3
  have hlen : bs.length + 2 = s.size := by
    have := congrArg List.length hs
    rw [ByteArray.toList_eq] at this
    simpa using this.symm
  have e1 : (s.toList == [49]) = false := by rw [hs]; rfl
  have e2 : (s.toList == [48]) = false := by rw [hs]; rfl
  have e3 : (s.extract 0 2).toList = [48, 46] := by
    rw [ByteArray.toList_eq] at hs ⊢
    simp [hs]
  have HS := Lib.hid hs
  have HL := Lib.hid hlen
  clear hs hlen
  go_enter Tryd.func26, Tryd.ntmps26
  go_wp2
  go_loopw [4, 5] (fun v i wr => ∃ (j : Nat) (ds : List Nat), 2 ≤ j ∧ j ≤ s.size ∧ i = .int .i64 j ∧ ds.length ≤ 20 ∧ Hid (ds = (bs.take (j - 2)).map dig) ∧ Hid (OwnI w.heap.size wr v ds) ∧ Hid ((bs.take (j - 2)).all isD = true) ∧ Below w.heap.size w wr) (fun _ i _ => s.size - (intOf i).toNat)
  case atStart => exact ⟨2, [], Nat.le_refl _, by omega, rfl, by simp, rfl, ownI_nil _ _, rfl, Below.refl _ _⟩
  case round =>
    obtain ⟨j, ds, hj2, hjs, rfl, hn, HE, HX, HA, hb⟩ := hrel
    by_cases hlt : j < s.size
    · have hbyte := at_byte s bs HS.out j hj2 hlt
      have HB := Lib.hid hbyte
      clear hbyte
      by_cases hlo : (s[j].toNat : Int) < 48
      · go_wp2
        go_ret2
        exact ⟨ret_no (core_no HB.out (isD_lo hlo)), hb⟩
      · by_cases hhi : (57 : Int) < s[j].toNat
        · go_wp2
          go_ret2
          exact ⟨ret_no (core_no HB.out (isD_hi hhi)), hb⟩
        · have hD := Lib.hid (isD_yes hlo hhi)
          have hI := Lib.hid (dig_int hlo)
          have hnext : (ds ++ [dig s[j]]).length ≤ 20 := by
            have h1 := HL.out
            have h2 := congrArg List.length HE.out
            simp at h2 ⊢
            omega
          have hlo' : (48 : Int) ≤ s[j].toNat := by omega
          have hhi' : (s[j].toNat : Int) ≤ 57 := by omega
          clear hlo hhi
          go_wp2_with (at_builtin; refine wpList_append_own _ rfl _ _ 35 rfl w.heap.size 3 i0 (.int .i64 0) 1 8 Tryd.underlying35 hi hz0 hz1 hz2 rfl (by decide) _ _ _ rfl (HX.out.alloc _) ⟨wr.heap.size, 0, none⟩ 1 1 [.int .i64 ((s[j].toNat : Int) - 48)] rfl rfl ?d1 ?d2 ?d3 ?d4 ?d5 ?_)
          case d1 =>
            intro k x hk
            match k, hk with
            | 0, hk => simp at hk; subst hk; simp [Addr.add]
          case d2 => intro x hx; simp at hx; subst hx; rfl
          case d3 => unfold maxLen; omega
          case d4 => omega
          case d5 => have := hb.size; simp; omega
          intro v' w2 hown' hgrow _
          have hown3 := ownI_next (dig s[j]) hI.out hown'
          have hb3 : Below w.heap.size w w2 := (hb.alloc hb.size _).grown hgrow (by have := hb.size; simp; omega) fun k hk => (HX.out.lt k hk).1
          clear hown' hgrow hb
          obtain ⟨t1, t2⟩ := take_dig HB.out
          have HE' := Lib.hid (HE.out ▸ t1.symm : ds ++ [dig s[j]] = (bs.take (j - 2 + 1)).map dig)
          rw [show j - 2 + 1 = j + 1 - 2 by omega] at HE'
          rw [HA.out, hD.out, show j - 2 + 1 = j + 1 - 2 by omega] at t2
          have HO' := Lib.hid hown3
          have HA' := Lib.hid t2
          clear hown3 t1 t2
          go_wp2
          go_roundw
          case rel => exact ⟨j + 1, ds ++ [dig s[j]], by omega, by omega, by go_num, hnext, HE', HO', HA', hb3⟩
          case measure => simp [intOf]; omega
    · have hbsL : j - 2 = bs.length := by have := HL.out; omega
      have ht : bs.take (j - 2) = bs := by rw [hbsL]; exact List.take_length
      have hA := HA.out
      have hE := HE.out
      rw [ht] at hA hE
      have HCO : Box (core bs = fin ds) := ⟨by unfold core; rw [if_pos hA, hE]⟩
      have h9 : ∀ d ∈ ds, d ≤ 9 := by rw [hE]; exact (map_dgB bs hA).2
      have hLL : ds.length = bs.length := by rw [hE]; simp
      have hpos : 0 < ds.length := by have := HL.out; omega
      obtain ⟨g, cap, rfl⟩ := ownI_shape HX.out hpos
      have H9 := Lib.hid h9
      have HO : Hid (OwnL w.heap.size wr g ds.length cap ds) := ownL_of HX.out
      clear ht hbsL HA HE hA hE hLL h9 HX
      obtain ⟨L, hL⟩ : ∃ L, ds.length = L := ⟨_, rfl⟩
      rw [hL] at HO hpos hn ⊢
      have HLL := Lib.hid hL
      clear hL
      obtain ⟨wa, rfl⟩ : ∃ wa : World, wa = wr := ⟨_, rfl⟩
      go_wp2
      go_loopw [6, 7] (fun nv bv w1 => ∃ (k n : Nat) (cur : List Nat), k ≤ 20 ∧ bv = .int .i64 k ∧ nv = .int .i64 n ∧ n ≤ 1048576 ∧ Hid (n < 2 ^ k) ∧ Hid (∀ d ∈ cur, d ≤ 9) ∧ Hid (OwnL w.heap.size w1 g L cap cur) ∧ Box (bits 20 ds 0 = bits (20 - k) cur n) ∧ Below w.heap.size w w1)
        (fun _ bv _ => 20 - (intOf bv).toNat)
      case atStart => exact ⟨0, 0, ds, by omega, rfl, rfl, by omega, by unfold Hid; decide, H9.out, HO, ⟨rfl⟩, hb⟩
      case round =>
        obtain ⟨k, n, cur, hk, rfl, rfl, hnle, HN, HC9, HO1, HBits, hb1⟩ := hrel
        obtain ⟨wb, rfl⟩ : ∃ wb : World, wb = wr := ⟨_, rfl⟩
        by_cases hlt20 : k < 20
        · go_wp2
          go_loopg [8, 9] L (fun kx ov iv w2 => ∃ (c : Nat) (row : List Nat), kx ≤ L ∧ (∃ q : Int, iv = .int .i64 q ∧ q = (kx : Int) - 1) ∧ ov = .int .i64 c ∧ c ≤ 1 ∧ Hid (c = (dbl (cur.drop kx)).1) ∧ Hid (row = cur.take kx ++ (dbl (cur.drop kx)).2) ∧ Hid (OwnL w.heap.size w2 g L cap row) ∧ Below w.heap.size w w2)
          case atStart =>
            have hcl : cur.length = L := HO1.out.2.1
            refine ⟨0, cur, Nat.le_refl _, ⟨_, rfl, rfl⟩, rfl, by omega, ?_, ?_, HO1, hb1⟩
            · unfold Hid; rw [List.drop_of_length_le (by omega)]; rfl
            · unfold Hid; rw [List.drop_of_length_le (by omega), List.take_of_length_le (by omega)]; simp [dbl]
          case round =>
            obtain ⟨c, row, hkl, ⟨q, rfl, hq⟩, rfl, hc1, HCc, HRow, HO2, hb2⟩ := hrel
            by_cases hz : gk = 0
            · subst hz
              obtain rfl : q = -1 := by omega
              clear hq
              have hC : c = (dbl cur).1 := by have := HCc.out; rwa [List.drop_zero] at this
              have hR : row = (dbl cur).2 := by have := HRow.out; rw [List.drop_zero, List.take_zero, List.nil_append] at this; exact this
              have HC' := Lib.hid hC
              have HR' := Lib.hid hR
              have hnb := n_next HN.out hc1 hlt20
              have HNB := Lib.hid hnb.1
              have hnb2 := hnb.2
              clear hC hR hnb
              go_wp2
              go_roundw
              case rel => exact ⟨k + 1, 2 * n + c, row, by omega, by go_num, by go_num, hnb2, HNB.out, by unfold Hid; rw [HR'.out]; exact dbl_nine cur, HO2, ⟨by rw [HBits.out, bits_next cur n hlt20, HR'.out, HC'.out]⟩, hb2⟩
              case measure => simp [intOf]; omega
            · obtain ⟨p, rfl⟩ : ∃ p, gk = p + 1 := ⟨gk - 1, by omega⟩
              have hpL : p < cur.length := by have := HO1.out.2.1; omega
              obtain ⟨d, hd⟩ : ∃ d, cur[p]? = some d := ⟨_, List.getElem?_eq_getElem hpL⟩
              have hstep := inner_step cur row p d c hd HCc.out HRow.out
              have hd9 : d ≤ 9 := HC9.out d (List.mem_of_getElem? hd)
              obtain rfl : q = (p : Int) := by omega
              clear hd hq
              have hcell := ownL_cell HO2.out hstep.1
              have hfree := ownL_free HO2.out p
              have hS := ownL_set HO2.out p ((2 * d + c) % 10) (((2 : Int) * d + c) % 10) (by omega)
              rw [hstep.2.1] at hS
              have HS' := Lib.hid hS
              have HD' := Lib.hid hstep.2.2
              have hpI : (p : Int) < L := by omega
              have hgb := HO2.out.1
              clear hS hstep
              go_wp2
              go_roundg p
              case measure => omega
              case rel => exact ⟨(2 * d + c) / 10, cur.take p ++ (dbl (cur.drop p)).2, by omega, ⟨_, rfl, by omega⟩, by go_num, by omega, HD', rfl, HS', hb2.setCell hgb _⟩
        · have hk20 : k = 20 := by omega
          have HF := Box.mk (fin_end (HBits.out.trans (bits_end k cur n hk20)))
          have hkf : decide ((k : Int) < 20) = false := decide_eq_false (by omega)
          clear hk20 hlt20 hk
          go_wp2
          go_loop [11] (fun iv => ∃ m : Nat, m ≤ L ∧ iv = .int .i64 m ∧ Box (zerosB cur = zerosB (cur.drop m))) (fun iv => L - (intOf iv).toNat)
          case atStart => exact ⟨0, Nat.zero_le _, rfl, ⟨rfl⟩⟩
          case round =>
            obtain ⟨m, hm, rfl, HZ⟩ := hrel
            by_cases hlt : m < L
            · have hmc : m < cur.length := by have := HO1.out.2.1; omega
              obtain ⟨x, hget, hdrop⟩ : ∃ x, cur[m]? = some x ∧ cur.drop m = x :: cur.drop (m + 1) := ⟨_, List.getElem?_eq_getElem hmc, List.drop_eq_getElem_cons hmc⟩
              have hcell := ownL_cell HO1.out hget
              have HDr := Lib.hid hdrop
              clear hdrop hget
              by_cases hx : x = 0
              · subst hx
                go_wp2
                go_round
                case rel => exact ⟨m + 1, by omega, by go_num, ⟨by rw [HZ.out, zeros_miss HDr.out rfl]⟩⟩
                case measure => simp [intOf]; omega
              · have hx' : ((x : Int) == 0) = false := by simpa using hx
                have hx'' : ¬ (x : Int) = 0 := by omega
                go_wp2
                go_ret2
                exact ⟨ret_no (by rw [HCO.out, HF.out, HZ.out, zeros_hit HDr.out hx]; rfl), hb1⟩
            · go_wp2
              go_ret2
              have hz : zerosB cur = true := by
                have hcl := HO1.out.2.1
                rw [HZ.out, List.drop_of_length_le (by omega)]; rfl
              exact ⟨ret_yes (by rw [HCO.out, HF.out, hz]; rfl), hb1⟩
end Go.Proofs.YtlhgopdlpjmbhaaDoor
