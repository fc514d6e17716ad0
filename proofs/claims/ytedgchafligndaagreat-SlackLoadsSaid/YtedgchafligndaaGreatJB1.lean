/- Texts of stages 3, 4, 12, 13 and 14 that stand together: SMem HMath SHand FQ FRow NKeep STab SOnce SLoad ZKeep ZSRep SRef ZSCopy; no condition but those that each row names. -/
import Derived.Below
import Derived.Laws.OwnMore
import Derived.Laws.AppendOwn
import Derived.Maps.AppendAt
import Derived.Deep.Draws
import Derived.WalkKit
import Derived.Lib.Hide
import Derived.Laws.BitsAllLaws
import Derived.Laws.BitsLemmas
import Derived.RowKit
import Derived.Test.YtedgchafligndaaGreatProg
import Derived.WalkSpells
import Derived.WalkLawsBesides
import Derived.OneCell
import Derived.Laws.IdiomCopy
import Derived.Deep.AppendLies
import Derived.Lib.SliceRun
import Derived.Deep.QuietTactic
import Derived.BigQuiet
import Derived.Deep.LoopGhost
import Derived.StillTailTactics
import Derived.Deep.DeepCutAuto
import Derived.Deep.RegionHeld3
import Derived.Deep.Upon
import Derived.Shelf.Abstract
import Derived.IntWalk
import Derived.Laws.CopyOwn
import Derived.Deep.OwnRows
/- Words for memory of stage 3: a slice that reads as a list of cells, apart from some blocks; what stays where only some blocks turn; nothing of the program; no condition. -/
namespace Go.Proofs.YtedgchafligndaaGreat
open Go.RowKit

/-- What lay below reads as it did. -/
theorem bcell {W w1 : World} (hb : Below W.heap.size W w1) : (∀ b o, b < W.heap.size → w1.cell? ⟨b, o, none⟩ = W.cell? ⟨b, o, none⟩) ∧ (∀ b o, b < W.heap.size → w1.frozen? ⟨b, o, none⟩ = W.frozen? ⟨b, o, none⟩) :=
  ⟨fun b o h => hb.cell (p := ⟨b, o, none⟩) h, fun b o h => hb.frozen (p := ⟨b, o, none⟩) h⟩
theorem bnext {w a b : World} (h : Below w.heap.size w a) (k : Below a.heap.size a b) : Below w.heap.size w b := h.trans (k.mono h.size)
theorem below_drewN {B : Nat} {a w : World} (h : Below B a w) (n : Nat) : Below B a (w.drewN n) := ⟨h.os, h.tape, h.output, h.size, h.block⟩
theorem cell_lt {w : World} {a : Addr} {v : Value} (h : w.cell? a = some v) : a.block < w.heap.size := by
  rcases Nat.lt_or_ge a.block w.heap.size with h' | h'
  · exact h'
  · simp [World.cell?, Array.getElem?_eq_none h'] at h
theorem ret_bool {a b : Bool} (h : a = b) : Ending.returned (.bool a) = .returned (.bool b) := by rw [h]
theorem ret_int {a b : Int} (h : a = b) : Ending.returned (.int .i64 a) = .returned (.int .i64 b) := by rw [h]

/-- Only the blocks of S, and new ones, have turned. -/
structure Keeps (S : Nat → Prop) (w w' : World) : Prop where
  os : w'.os = w.os
  tape : w'.tape = w.tape
  output : w'.output = w.output
  size : w.heap.size ≤ w'.heap.size
  block : ∀ b, b < w.heap.size → ¬ S b → w'.heap[b]? = w.heap[b]?
theorem Keeps.refl (S : Nat → Prop) (w : World) : Keeps S w w := ⟨rfl, rfl, rfl, Nat.le_refl _, fun _ _ _ => rfl⟩
theorem Keeps.trans {S : Nat → Prop} {a b c : World} (h : Keeps S a b) (k : Keeps S b c) : Keeps S a c :=
  ⟨k.os.trans h.os, k.tape.trans h.tape, k.output.trans h.output, Nat.le_trans h.size k.size, fun x hx hn => (k.block x (Nat.lt_of_lt_of_le hx h.size) hn).trans (h.block x hx hn)⟩
theorem Keeps.of_below {S : Nat → Prop} {w w' : World} (h : Below w.heap.size w w') : Keeps S w w' := ⟨h.os, h.tape, h.output, h.size, fun b hb _ => h.block b hb⟩
theorem Keeps.below {S : Nat → Prop} {B : Nat} {w w' : World} (h : Keeps S w w') (hB : B ≤ w.heap.size) (hS : ∀ b, S b → B ≤ b) : Below B w w' :=
  ⟨h.os, h.tape, h.output, h.size, fun b hb => h.block b (Nat.lt_of_lt_of_le hb hB) fun k => by have := hS b k; omega⟩
theorem Keeps.mono {S T : Nat → Prop} {w w' : World} (h : Keeps S w w') (hS : ∀ b, S b → T b) : Keeps T w w' := ⟨h.os, h.tape, h.output, h.size, fun b hb hn => h.block b hb fun k => hn (hS b k)⟩
theorem Keeps.cell {S : Nat → Prop} {w w' : World} (h : Keeps S w w') {p : Addr} (hp : p.block < w.heap.size) (hn : ¬ S p.block) : w'.cell? p = w.cell? p := World.cell?_of_block (w := w) (h.block p.block hp hn)

/-- A slice that reads as the cells xs; their blocks are none of S. -/
def Lst (S : Nat → Prop) (w : World) (v : Value) (xs : List Value) : Prop :=
  ∃ p cap, v = .slice p xs.length cap ∧ xs.length ≤ 9223372036854775807 ∧ ∀ j x, xs[j]? = some x → ∃ b off, p = some ⟨b, off, none⟩ ∧ ¬ S b ∧ w.cell? ⟨b, off + j, none⟩ = some x
theorem Lst.nil (S : Nat → Prop) (w : World) : Lst S w (.slice none 0 0) [] := ⟨none, 0, rfl, by simp, fun j x hx => by simp at hx⟩
theorem Lst.keeps {S : Nat → Prop} {w w' : World} {v : Value} {xs : List Value} (h : Lst S w v xs) (hk : Keeps S w w') : Lst S w' v xs := by
  obtain ⟨p, cap, e, hl, hc⟩ := h
  refine ⟨p, cap, e, hl, fun j x hx => ?_⟩
  obtain ⟨b, off, e2, hn, hcell⟩ := hc j x hx
  exact ⟨b, off, e2, hn, (hk.cell (cell_lt hcell) hn).trans hcell⟩
theorem Lst.below {S : Nat → Prop} {w w' : World} {v : Value} {xs : List Value} (h : Lst S w v xs) (hb : Below w.heap.size w w') : Lst S w' v xs := h.keeps (Keeps.of_below hb)
theorem Lst.mono {S T : Nat → Prop} {w : World} {v : Value} {xs : List Value} (h : Lst S w v xs) (hS : ∀ b, b < w.heap.size → T b → S b) : Lst T w v xs := by
  obtain ⟨p, cap, e, hl, hc⟩ := h
  refine ⟨p, cap, e, hl, fun j x hx => ?_⟩
  obtain ⟨b, off, e2, hn, hcell⟩ := hc j x hx
  exact ⟨b, off, e2, fun k => hn (hS b (cell_lt hcell) k), hcell⟩
theorem addr_add (g j : Nat) : (⟨g, 0, none⟩ : Addr).add j = ⟨g, 0 + j, none⟩ := by
  unfold Addr.add
  split
  · next h => subst h; rfl
  · rfl
/-- A row of the call's own reads as its cells. -/
theorem Lst.of_own {S : Nat → Prop} {w : World} {base e n : Nat} {v : Value} {xs : List Value} (h : w.ownsRow base e 1 v n xs) (hn : xs.length = n) (hl : n ≤ 9223372036854775807) (hS : ∀ b, base ≤ b → b < w.heap.size → ¬ S b) : Lst S w v xs := by
  have h' := h
  obtain ⟨h1, h2⟩ := h
  rcases h2 with ⟨rfl, h2⟩ | ⟨g, cap, cur, rfl, hg, _⟩
  · have hx : xs = [] := by
      first
        | exact h2
        | exact List.eq_nil_of_length_eq_zero (by omega)
    subst hx
    exact Lst.nil S w
  · refine ⟨_, cap, by rw [hn], by omega, fun j x hx => ?_⟩
    have hc := World.ownsRow.cells h' rfl j x hx
    rw [addr_add] at hc
    exact ⟨g, 0, rfl, hS g hg (cell_lt hc), hc⟩

def ints (l : List Int) : List Value := l.map fun z => .int .i64 z
def bools (l : List Bool) : List Value := l.map fun z => .bool z
theorem ints_len (l : List Int) : (ints l).length = l.length := by simp [ints]
theorem bools_len (l : List Bool) : (bools l).length = l.length := by simp [bools]
theorem ints_at {l : List Int} {j : Nat} (h : j < l.length) : (ints l)[j]? = some (.int .i64 (l.getD j 0)) := by simp [ints, List.getD_eq_getElem?_getD, h]
theorem bools_at {l : List Bool} {j : Nat} (h : j < l.length) : (bools l)[j]? = some (.bool (l.getD j false)) := by simp [bools, List.getD_eq_getElem?_getD, h]
theorem ints_snoc (l : List Int) (z : Int) : ints l ++ [.int .i64 z] = ints (l ++ [z]) := by simp [ints]
theorem ints_one {l : List Int} : ∀ u ∈ ints l, u.oneCell' = true := by
  intro u hu; unfold ints at hu; obtain ⟨x, _, rfl⟩ := List.mem_map.1 hu; rfl
theorem bools_one {l : List Bool} : ∀ u ∈ bools l, u.oneCell' = true := by
  intro u hu; unfold bools at hu; obtain ⟨x, _, rfl⟩ := List.mem_map.1 hu; rfl
theorem news_one (w : World) (v : Value) (t : TypeId) : ∀ (j : Nat) x, [v][j]? = some x → (w.alloc (.cells #[v] t)).cell? ((⟨w.heap.size, 0, none⟩ : Addr).add j) = some x := by
  intro j x hj
  match j, hj with
  | 0, hj => simp at hj; subst hj; simp [Addr.add]
theorem own_shape {E base : Nat} {w : World} {v : Value} {n : Nat} {xs : List Value} (h : w.ownsRow base E 1 v n xs) (hn : xs.length = n) : ∃ p cap, v = .slice p n cap := by
  obtain ⟨h1, h2⟩ := h
  rcases h2 with ⟨rfl, h2⟩ | ⟨g, cap, cur, hv, _⟩
  · have hx : xs = [] := by
      first
        | exact h2
        | exact List.eq_nil_of_length_eq_zero (by omega)
    subst hx; simp at hn; subst hn; exact ⟨_, _, rfl⟩
  · exact ⟨_, cap, hv⟩
theorem own_below {E base : Nat} {w w' : World} {v : Value} {n : Nat} {xs : List Value} (h : w.ownsRow base E 1 v n xs) (hb : Below w.heap.size w w') : w'.ownsRow base E 1 v n xs :=
  World.ownsRow.kept (row := none) h ⟨hb.os, hb.tape, hb.output, hb.size, fun i hi _ => hb.block i hi⟩ (Classical.em _)
end Go.Proofs.YtedgchafligndaaGreat
/- Plain mathematics for stage 2: a handle's number and its parts, in shifts and masks and in division; nothing of the program; no condition. -/
namespace Go.Proofs.YtedgchafligndaaGreat
open Go.RowKit

/-- Parts that may be. -/
def okP (k s g : Int) : Prop := 1 ≤ k ∧ k ≤ 3 ∧ 0 ≤ s ∧ s ≤ 65535 ∧ 1 ≤ g ∧ g ≤ 1023
def kOf (h : Int) : Int := h / 1099511627776
def sOf (h : Int) : Int := h / 1048576 % 1048576
def gOf (h : Int) : Int := h % 1048576
/-- A number that may be a handle. -/
def okH (h : Int) : Prop := okP (kOf h) (sOf h) (gOf h)
def mkH (k s g : Int) : Int := k * 1099511627776 + s * 1048576 + g

theorem sOf_nonneg (h : Int) : 0 ≤ sOf h ∧ sOf h < 1048576 := by unfold sOf; omega
theorem gOf_nonneg (h : Int) : 0 ≤ gOf h ∧ gOf h < 1048576 := by unfold gOf; omega
theorem mk_of (h : Int) : mkH (kOf h) (sOf h) (gOf h) = h := by unfold mkH kOf sOf gOf; omega
theorem of_mk {k s g : Int} (h : okP k s g) : kOf (mkH k s g) = k ∧ sOf (mkH k s g) = s ∧ gOf (mkH k s g) = g := by
  unfold okP at h; unfold mkH kOf sOf gOf; omega
theorem ok_mk {k s g : Int} (h : okP k s g) : okH (mkH k s g) := by
  obtain ⟨a, b, c⟩ := of_mk h
  unfold okH; rw [a, b, c]; exact h
theorem okH_bd {h : Int} (k : okH h) : 1099511627777 ≤ h ∧ h ≤ 3367253312511 := by unfold okH okP kOf sOf gOf at k; omega
theorem okH_ne {h : Int} (k : okH h) : h ≠ 0 := by have := okH_bd k; omega
theorem not_ok0 : ¬ okH 0 := fun k => okH_ne k rfl

theorem ofInt_i64_toNat (a : Int) : ((BitVec.ofInt 64 a).toNat : Int) = a % 18446744073709551616 := by
  rw [BitVec.toNat_ofInt]
  have : (0 : Int) ≤ a % 18446744073709551616 := Int.emod_nonneg _ (by omega)
  show ((a % ((2 ^ 64 : Nat) : Int)).toNat : Int) = _
  rw [show ((2 ^ 64 : Nat) : Int) = 18446744073709551616 by decide]
  omega

/-- A mask of twenty bits, at every int. -/
theorem i64_mask (a : Int) : bits .and .i64 a 1048575 = a % 1048576 := by
  show IntKind.i64.wrap ((BitVec.ofInt 64 a &&& BitVec.ofInt 64 1048575).toNat : Int) = _
  have h1 : (BitVec.ofInt 64 1048575).toNat = 2 ^ 20 - 1 := by decide
  rw [BitVec.toNat_and, h1, Nat.and_two_pow_sub_one_eq_mod, IntKind.wrap_i64]
  have h2 := ofInt_i64_toNat a
  generalize (BitVec.ofInt 64 a).toNat = n at *
  have : (2 : Nat) ^ 20 = 1048576 := by decide
  rw [this]
  omega

theorem ofInt_i64n (a : Nat) (ha : a < 9223372036854775808) : (BitVec.ofInt 64 (a : Int)).toNat = a := by
  rw [BitVec.ofInt_natCast, BitVec.toNat_ofNat]; exact Nat.mod_eq_of_lt (by omega)
theorem i64_or_n (a b : Nat) (ha : a < 9223372036854775808) (hb : b < 9223372036854775808) : bits .or .i64 (a : Int) (b : Int) = ((a ||| b : Nat) : Int) := by
  have hx : a ||| b < 2 ^ 63 := Nat.or_lt_two_pow (by omega) (by omega)
  show IntKind.i64.wrap ((BitVec.ofInt 64 (a : Int) ||| BitVec.ofInt 64 (b : Int)).toNat : Int) = _
  rw [BitVec.toNat_or, ofInt_i64n a ha, ofInt_i64n b hb, IntKind.wrap_i64]
  omega
/-- Bits that don't meet are a sum. -/
theorem i64_or_add (i : Nat) (a b : Nat) (hb : b < 2 ^ i) (ha : 2 ^ i * a < 9223372036854775808) (hb2 : b < 9223372036854775808) : bits .or .i64 ((2 ^ i * a : Nat) : Int) (b : Int) = ((2 ^ i * a + b : Nat) : Int) := by
  rw [i64_or_n _ _ ha hb2, Nat.two_pow_add_eq_or_of_lt hb]
theorem or_k (k s : Int) (hk : 0 ≤ k) (hk' : k ≤ 3) (hs : 0 ≤ s) (hs' : s ≤ 65535) : bits .or .i64 (k * 1099511627776) (s * 1048576) = k * 1099511627776 + s * 1048576 := by
  obtain ⟨a, rfl⟩ := Int.eq_ofNat_of_zero_le hk
  obtain ⟨b, rfl⟩ := Int.eq_ofNat_of_zero_le hs
  have e : (2 : Nat) ^ 40 = 1099511627776 := by decide
  have h := i64_or_add 40 a (b * 1048576) (by rw [e]; omega) (by rw [e]; omega) (by omega)
  rw [e] at h
  rw [show ((a : Int) * 1099511627776) = ((1099511627776 * a : Nat) : Int) by omega, show ((b : Int) * 1048576) = ((b * 1048576 : Nat) : Int) by omega, h]
  omega
theorem or_s (k s g : Int) (hk : 0 ≤ k) (hk' : k ≤ 3) (hs : 0 ≤ s) (hs' : s ≤ 65535) (hg : 0 ≤ g) (hg' : g ≤ 1023) : bits .or .i64 (k * 1099511627776 + s * 1048576) g = mkH k s g := by
  obtain ⟨a, rfl⟩ := Int.eq_ofNat_of_zero_le hk
  obtain ⟨b, rfl⟩ := Int.eq_ofNat_of_zero_le hs
  obtain ⟨c, rfl⟩ := Int.eq_ofNat_of_zero_le hg
  have e : (2 : Nat) ^ 20 = 1048576 := by decide
  have h := i64_or_add 20 (a * 1048576 + b) c (by rw [e]; omega) (by rw [e]; omega) (by omega)
  rw [e] at h
  rw [show ((a : Int) * 1099511627776 + (b : Int) * 1048576) = ((1048576 * (a * 1048576 + b) : Nat) : Int) by omega, h]
  unfold mkH
  omega

/-- The order of handles is that of their parts. -/
theorem lt_parts {a b : Int} (ha : okH a) (hb : okH b) : a < b ↔ kOf a < kOf b ∨ (kOf a = kOf b ∧ (sOf a < sOf b ∨ (sOf a = sOf b ∧ gOf a < gOf b))) := by
  unfold okH okP kOf sOf gOf at *; omega
theorem eq_parts {a b : Int} : a = b ↔ kOf a = kOf b ∧ sOf a = sOf b ∧ gOf a = gOf b := by
  unfold kOf sOf gOf; omega

/-- Next. -/
theorem next_parts {h : Int} (k : okH h) (g : gOf h < 1023) : okH (h + 1) ∧ kOf (h + 1) = kOf h ∧ sOf (h + 1) = sOf h ∧ gOf (h + 1) = gOf h + 1 := by
  unfold okH okP kOf sOf gOf at *; omega

/-- Six bytes of a number, the highest first. -/
def byteAt (h : Int) (d : Int) : UInt8 := UInt8.ofNat (h / d % 256).toNat
def six (h : Int) : List UInt8 := [byteAt h 1099511627776, byteAt h 4294967296, byteAt h 16777216, byteAt h 65536, byteAt h 256, byteAt h 1]
theorem byteAt_toNat (h d : Int) : ((byteAt h d).toNat : Int) = h / d % 256 := by
  unfold byteAt
  rw [UInt8.toNat_ofNat']
  omega
/-- The number of bytes. -/
def numL (acc : Int) : List UInt8 → Int
  | [] => acc
  | b :: r => numL (acc * 256 + (b.toNat : Int)) r
theorem num_six {h : Int} (h0 : 0 ≤ h) (h1 : h < 281474976710656) : numL 0 (six h) = h := by
  unfold six
  simp only [numL, byteAt_toNat]
  omega
theorem six_length (h : Int) : (six h).length = 6 := rfl
end Go.Proofs.YtedgchafligndaaGreat
/- The program's package handle as far as the tables of slots call it: what may be, Make, Slot; the library's bits.Mul of 1; no condition but those that each row names. -/
namespace Go.Proofs.YtedgchafligndaaGreat
open Go.RowKit

theorem ret_handle {a x : Int} {v : Value} (h1 : a = x) : Ending.returned (.tuple #[.int .i64 a, v]) = .returned (.tuple #[.int .i64 x, v]) := by rw [h1]
theorem ret_parts {a b c x y z : Int} (h1 : a = x) (h2 : b = y) (h3 : c = z) : Ending.returned (.tuple #[.int .i64 a, .int .i64 b, .int .i64 c]) = .returned (.tuple #[.int .i64 x, .int .i64 y, .int .i64 z]) := by rw [h1, h2, h3]

theorem maybe_ok (k s g : Int) (w : World) (h : okP k s g) :
    Calls Tryz.prog 81 #[.int .i64 k, .int .i64 s, .int .i64 g] w fun e w' => e = .returned (.bool true) ∧ w = w' := by
  obtain ⟨h1, h2, h3, h4, h5, h6⟩ := h
  go_enter Tryz.func81, Tryz.ntmps81
  go_wp2
  go_ret
  exact ⟨rfl, rfl⟩

theorem maybe_no (k s g : Int) (w : World) (h : ¬ okP k s g) :
    Calls Tryz.prog 81 #[.int .i64 k, .int .i64 s, .int .i64 g] w fun e w' => e = .returned (.bool false) ∧ w = w' := by
  by_cases h1 : 1 ≤ k
  · by_cases h2 : k ≤ 3
    · by_cases h3 : 0 ≤ s
      · by_cases h4 : s ≤ 65535
        · by_cases h5 : 1 ≤ g
          · have h6 : 1023 < g := by unfold okP at h; omega
            clear h
            go_enter Tryz.func81, Tryz.ntmps81
            go_wp2
            go_ret
            exact ⟨ret_bool (decide_eq_false (by omega)), rfl⟩
          · have h6 : g < 1 := by omega
            clear h h5
            go_enter Tryz.func81, Tryz.ntmps81
            go_wp2
            go_ret
            exact ⟨rfl, rfl⟩
        · have h6 : 65535 < s := by omega
          clear h h4
          go_enter Tryz.func81, Tryz.ntmps81
          go_wp2
          go_ret
          exact ⟨rfl, rfl⟩
      · have h6 : s < 0 := by omega
        clear h h3
        go_enter Tryz.func81, Tryz.ntmps81
        go_wp2
        go_ret
        exact ⟨rfl, rfl⟩
    · have h6 : 3 < k := by omega
      clear h h2
      go_enter Tryz.func81, Tryz.ntmps81
      go_wp2
      go_ret
      exact ⟨rfl, rfl⟩
  · have h6 : k < 1 := by omega
    clear h h1
    go_enter Tryz.func81, Tryz.ntmps81
    go_wp2
    go_ret
    exact ⟨rfl, rfl⟩

theorem split_any (h : Int) (w : World) :
    Calls Tryz.prog 80 #[.int .i64 h] w fun e w' => e = .returned (.tuple #[.int .i64 (kOf h), .int .i64 (sOf h), .int .i64 (gOf h)]) ∧ w = w' := by
  go_enter Tryz.func80, Tryz.ntmps80
  go_wp2
  go_ret3
  exact ⟨ret_parts rfl (i64_mask _) (i64_mask _), rfl⟩

theorem slot_ok (h : Int) (w : World) (k : okH h) :
    Calls Tryz.prog 62 #[.int .i64 h] w fun e w' => e = .returned (.int .i64 (sOf h)) ∧ w = w' := by
  go_enter Tryz.func62, Tryz.ntmps62
  go_wp2_with fail
  refine (split_any _ _).mono ?_
  rintro e w1 ⟨rfl, rfl⟩
  go_wp2_with fail
  refine (maybe_ok _ _ _ _ k).mono ?_
  rintro e w1 ⟨rfl, rfl⟩
  go_wp2_with fail
  go_ret
  exact ⟨rfl, rfl⟩

theorem slot_no (h : Int) (w : World) (k : ¬ okH h) :
    Calls Tryz.prog 62 #[.int .i64 h] w fun e w' => e = .returned (.int .i64 (-1)) ∧ w = w' := by
  go_enter Tryz.func62, Tryz.ntmps62
  go_wp2_with fail
  refine (split_any _ _).mono ?_
  rintro e w1 ⟨rfl, rfl⟩
  go_wp2_with fail
  refine (maybe_no _ _ _ _ k).mono ?_
  rintro e w1 ⟨rfl, rfl⟩
  go_wp2_with fail
  go_ret
  exact ⟨rfl, rfl⟩

theorem make_ok (k s g : Int) (w : World) (h : okP k s g) :
    Calls Tryz.prog 73 #[.int .i64 k, .int .i64 s, .int .i64 g] w fun e w' => e = .returned (.tuple #[.int .i64 (mkH k s g), .nilIface]) ∧ w = w' := by
  obtain ⟨h1, h2, h3, h4, h5, h6⟩ := id h
  go_enter Tryz.func73, Tryz.ntmps73
  go_wp2_with fail
  refine (maybe_ok _ _ _ _ h).mono ?_
  rintro e w1 ⟨rfl, rfl⟩
  go_wp2_with fail
  go_ret2
  exact ⟨ret_handle (by rw [or_k k s (by omega) h2 h3 h4, or_s k s g (by omega) h2 h3 h4 (by omega) h6]), rfl⟩

theorem make_no (k s g : Int) (w : World) (h : ¬ okP k s g) :
    Calls Tryz.prog 73 #[.int .i64 k, .int .i64 s, .int .i64 g] w fun e w' => e = .returned (.tuple #[.int .i64 0, .iface 65 (.int .i64 1)]) ∧ w = w' := by
  go_enter Tryz.func73, Tryz.ntmps73
  go_wp2_with fail
  refine (maybe_no _ _ _ _ h).mono ?_
  rintro e w1 ⟨rfl, rfl⟩
  go_wp2_with fail
  go_ret2
  exact ⟨rfl, rfl⟩

theorem u64_mask (n : Int) (h0 : 0 ≤ n) (h1 : n ≤ 4096) : bits .and .u64 n 4294967295 = n := by
  obtain ⟨a, rfl⟩ := Int.eq_ofNat_of_zero_le h0
  show IntKind.u64.wrap ((BitVec.ofInt 64 (a : Int) &&& BitVec.ofInt 64 4294967295).toNat : Int) = _
  have h1 : (BitVec.ofInt 64 4294967295).toNat = 2 ^ 32 - 1 := by decide
  rw [BitVec.toNat_and, h1, Nat.and_two_pow_sub_one_eq_mod, ofInt_i64n a (by omega), Nat.mod_eq_of_lt (by omega), IntKind.wrap_u64]
  omega
theorem ret_u {a b x y : Int} (h1 : a = x) (h2 : b = y) : Ending.returned (.tuple #[.int .u64 a, .int .u64 b]) = .returned (.tuple #[.int .u64 x, .int .u64 y]) := by rw [h1, h2]
theorem mul64_one (n : Int) (w : World) (h0 : 0 ≤ n) (h1 : n ≤ 4096) :
    Calls Tryz.prog 102 #[.int .u64 1, .int .u64 n] w fun e w' => e = .returned (.tuple #[.int .u64 0, .int .u64 n]) ∧ w = w' := by
  have m1 := u64_mask n h0 h1
  have m2 := u64_mask 1 (by omega) (by omega)
  have m3 := u64_mask 0 (by omega) (by omega)
  go_enter Tryz.func102, Tryz.ntmps102
  go_wp2_with fail
  go_ret2
  refine ⟨ret_u ?_ ?_, rfl⟩
  · simp only [IntKind.wrap_u64]
    have e : n / 4294967296 = 0 := by omega
    simp [e, m3]
  · rfl
theorem mul_one (n : Int) (w : World) (h0 : 0 ≤ n) (h1 : n ≤ 4096) :
    Calls Tryz.prog 88 #[.int .u64 1, .int .u64 n] w fun e w' => e = .returned (.tuple #[.int .u64 0, .int .u64 n]) ∧ w = w' := by
  go_enter Tryz.func88, Tryz.ntmps88
  go_wp2_with fail
  refine (mul64_one n _ h0 h1).mono ?_
  rintro e w1 ⟨rfl, rfl⟩
  go_wp2_with fail
  go_ret2
  exact ⟨rfl, rfl⟩
end Go.Proofs.YtedgchafligndaaGreat
/- A queue as it lies in memory: one block of three cells, one row of elements with their numbers; plain words on lists; nothing of the program is walked here; no condition. -/
namespace Go.Proofs.YtedgchafligndaaGreat
open Go.RowKit

/-- A queue: its limit, its elements with their numbers, the last number. -/
structure Qu where
  limit : Int
  l : List (Value × Int)
  last : Int

/-- The cells of an element. -/
def cellsOf : Value → List Value
  | .agg xs => xs.toList
  | v => [v]
def flat : List (Value × Int) → List Value
  | [] => []
  | p :: r => cellsOf p.1 ++ (.int .i64 p.2 :: flat r)
def Wide (k : Nat) (l : List (Value × Int)) : Prop := ∀ p ∈ l, (cellsOf p.1).length = k ∧ ∀ u ∈ cellsOf p.1, u.oneCell' = true

theorem flat_append (a b : List (Value × Int)) : flat (a ++ b) = flat a ++ flat b := by
  induction a with
  | nil => rfl
  | cons p r ih => simp [flat, ih]
theorem flat_one (v : Value) (n : Int) : flat [(v, n)] = cellsOf v ++ [.int .i64 n] := by simp [flat]
theorem Wide.tail {k : Nat} {p : Value × Int} {r : List (Value × Int)} (h : Wide k (p :: r)) : Wide k r := fun q hq => h q (List.mem_cons_of_mem _ hq)
theorem flat_len {k : Nat} : ∀ {l : List (Value × Int)}, Wide k l → (flat l).length = l.length * (k + 1)
  | [], _ => by simp [flat]
  | p :: r, h => by
    have h1 := (h p (by simp)).1
    have h2 := flat_len h.tail
    simp [flat, h1, h2, Nat.add_mul]
    omega
theorem flat_cells {k : Nat} : ∀ {l : List (Value × Int)}, Wide k l → ∀ {i : Nat} (hi : i < l.length) (j : Nat), j < k → (flat l)[i * (k + 1) + j]? = (cellsOf l[i].1)[j]?
  | p :: r, h, 0, _, j, hj => by
    have h1 := (h p (by simp)).1
    simp only [flat, Nat.zero_mul, Nat.zero_add, List.getElem_cons_zero]
    rw [List.getElem?_append_left (by omega)]
  | p :: r, h, i + 1, hi, j, hj => by
    have h1 := (h p (by simp)).1
    have ih := flat_cells h.tail (i := i) (by simpa using hi) j hj
    simp only [flat, List.getElem_cons_succ]
    rw [List.getElem?_append_right (by rw [h1, Nat.add_mul]; omega), h1, ← ih, Nat.add_mul,
      show i * (k + 1) + 1 * (k + 1) + j - k = (i * (k + 1) + j) + 1 from by omega, List.getElem?_cons_succ]
theorem flat_num {k : Nat} : ∀ {l : List (Value × Int)}, Wide k l → ∀ {i : Nat} (hi : i < l.length), (flat l)[i * (k + 1) + k]? = some (.int .i64 l[i].2)
  | p :: r, h, 0, _ => by
    have h1 := (h p (by simp)).1
    simp only [flat, Nat.zero_mul, Nat.zero_add, List.getElem_cons_zero]
    rw [List.getElem?_append_right (by omega), h1]
    simp
  | p :: r, h, i + 1, hi => by
    have h1 := (h p (by simp)).1
    have ih := flat_num h.tail (i := i) (by simpa using hi)
    simp only [flat, List.getElem_cons_succ]
    rw [List.getElem?_append_right (by rw [h1, Nat.add_mul]; omega), h1, ← ih, Nat.add_mul,
      show i * (k + 1) + 1 * (k + 1) + k - k = (i * (k + 1) + k) + 1 from by omega, List.getElem?_cons_succ]
theorem flat_one_cell {k : Nat} : ∀ {l : List (Value × Int)}, Wide k l → ∀ u ∈ flat l, u.oneCell' = true
  | [], _, u, hu => by simp [flat] at hu
  | p :: r, h, u, hu => by
    simp only [flat, List.mem_append, List.mem_cons] at hu
    rcases hu with hu | rfl | hu
    · exact (h p (by simp)).2 u hu
    · rfl
    · exact flat_one_cell h.tail u hu
theorem flat_take {k : Nat} : ∀ {l : List (Value × Int)}, Wide k l → ∀ (i : Nat), (flat l).take (i * (k + 1)) = flat (l.take i)
  | [], _, i => by simp [flat]
  | p :: r, h, 0 => by simp [flat]
  | p :: r, h, i + 1 => by
    have h1 := (h p (by simp)).1
    have ih := flat_take h.tail i
    simp only [flat, List.take_succ_cons]
    rw [List.take_append, List.take_of_length_le (by rw [h1, Nat.add_mul]; omega), h1, Nat.add_mul,
      show i * (k + 1) + 1 * (k + 1) - k = i * (k + 1) + 1 from by omega, List.take_succ_cons, ih]
theorem flat_drop {k : Nat} : ∀ {l : List (Value × Int)}, Wide k l → ∀ (i : Nat), (flat l).drop (i * (k + 1)) = flat (l.drop i)
  | [], _, i => by simp [flat]
  | p :: r, h, 0 => by simp [flat]
  | p :: r, h, i + 1 => by
    have h1 := (h p (by simp)).1
    have ih := flat_drop h.tail i
    simp only [flat, List.drop_succ_cons]
    rw [List.drop_append, List.drop_of_length_le (by rw [h1, Nat.add_mul]; omega), h1, Nat.add_mul,
      show i * (k + 1) + 1 * (k + 1) - k = i * (k + 1) + 1 from by omega, List.drop_succ_cons, ih, List.nil_append]

/-- What every queue is that New has made (and the one that it has not made). -/
structure Qu.Good (k : Nat) (A : Qu) : Prop where
  l0 : 0 ≤ A.limit
  l1 : A.limit ≤ 4096
  len : (A.l.length : Int) ≤ A.limit
  wd : Wide k A.l
  z0 : 0 ≤ A.last
  nums : ∀ p ∈ A.l, 1 ≤ p.2 ∧ p.2 ≤ A.last
  nd : (A.l.map (·.2)).Nodup
theorem Qu.Good.n4 {k : Nat} {A : Qu} (h : A.Good k) : A.l.length ≤ 4096 := by have := h.len; have := h.l1; omega

/-- The queue in a world. -/
structure PQ (T E : TypeId) (k B : Nat) (w : World) (A : Qu) (b : Nat) (s : Value) : Prop where
  blk : w.heap[b]? = some (.cells #[.int .i64 A.limit, s, .int .i64 A.last] T (0, 0))
  own : w.ownsRow B E (k + 1) s A.l.length (flat A.l)
  hb : B ≤ b
  ne : s.ownBlock ≠ some b
/-- The same, its blocks S, the pointer v. -/
def Queue (T E : TypeId) (k : Nat) (S : Nat → Prop) (B : Nat) (w : World) (A : Qu) (v : Value) : Prop :=
  ∃ b s, v = .pointer (some ⟨b, 0, none⟩) ∧ PQ T E k B w A b s ∧ ∀ x, S x ↔ x = b ∨ s.ownBlock = some x

section
variable {T E : TypeId} {k B : Nat} {w : World} {A : Qu} {b : Nat} {s : Value}
theorem PQ.f0 (h : PQ T E k B w A b s) : w.cell? ⟨b, 0, none⟩ = some (.int .i64 A.limit) := by rw [cell_of_row _ _ _ _ _ _ h.blk]; rfl
theorem PQ.f1 (h : PQ T E k B w A b s) : w.cell? ⟨b, 1, none⟩ = some s := by rw [cell_of_row _ _ _ _ _ _ h.blk]; rfl
theorem PQ.f2 (h : PQ T E k B w A b s) : w.cell? ⟨b, 2, none⟩ = some (.int .i64 A.last) := by rw [cell_of_row _ _ _ _ _ _ h.blk]; rfl
theorem PQ.fz (h : PQ T E k B w A b s) (j : Nat) : w.frozen? ⟨b, j, none⟩ = false := frozen_of_row _ _ _ _ _ h.blk
theorem PQ.lt (h : PQ T E k B w A b s) : b < w.heap.size := lt_of_block h.blk
/-- The slice's form. -/
theorem PQ.shape (h : PQ T E k B w A b s) : ∃ p cap, s = .slice p A.l.length cap := by
  rcases h.own.2 with ⟨rfl, h2⟩ | ⟨g, cap, cur, rfl, _⟩
  · exact ⟨_, _, by rw [h2]⟩
  · exact ⟨_, _, rfl⟩
theorem PQ.form (h : PQ T E k B w A b s) (hn : 0 < A.l.length) : ∃ g cap, s = .slice (some ⟨g, 0, none⟩) A.l.length cap ∧ B ≤ g ∧ g < w.heap.size ∧ g ≠ b := by
  obtain ⟨g, cap, rfl, hb, hg⟩ := h.own.form hn
  exact ⟨g, cap, rfl, hb, hg, fun e => h.ne (by simp [Value.ownBlock, e])⟩
theorem PQ.kept {w' : World} {row : Option Nat} (h : PQ T E k B w A b s) (hg : w.grownBy w' row) (h0 : some b ≠ row) (h1 : s.ownBlock = none ∨ s.ownBlock ≠ row) : PQ T E k B w' A b s :=
  ⟨(hg.block b h.lt h0).trans h.blk, h.own.kept hg h1, h.hb, h.ne⟩
end
theorem Queue.lt {T E : TypeId} {k B : Nat} {w : World} {A : Qu} {S : Nat → Prop} {v : Value} (h : Queue T E k S B w A v) : ∀ x, S x → B ≤ x ∧ x < w.heap.size := by
  obtain ⟨b, s, rfl, h, hS⟩ := h
  intro x hx
  rcases (hS x).1 hx with rfl | e
  · exact ⟨h.hb, h.lt⟩
  · exact h.own.lt x e

/-- Is there an element at a place. -/
def hasB (A : Qu) (i : Int) : Bool := decide (0 ≤ i ∧ i < A.l.length)
theorem hasB_iff {A : Qu} {i : Int} : hasB A i = true ↔ 0 ≤ i ∧ i < A.l.length := by simp [hasB]

/-- The element at a place, one cell. -/
theorem PQ.elem1 {T E : TypeId} {B : Nat} {w : World} {A : Qu} {b : Nat} {s : Value} (h : PQ T E 1 B w A b s) (hA : A.Good 1) {g cap : Nat} (hs : s = .slice (some ⟨g, 0, none⟩) A.l.length cap) {i : Nat} (hi : i < A.l.length) {v : Value} (hv : A.l[i].1 = v) (hc : cellsOf v = [v]) :
    w.cell? ⟨g, i * 2, none⟩ = some v ∧ w.cell? ⟨g, i * 2 + 1, none⟩ = some (.int .i64 A.l[i].2) := by
  have ho := h.own
  subst hs
  have e1 := ho.cellAt (i * 2) (by omega)
  have e2 := ho.cellAt (i * 2 + 1) (by omega)
  have f1 := flat_cells hA.wd hi 0 (by omega)
  have f2 := flat_num hA.wd hi
  rw [hv, hc] at f1
  exact ⟨e1.trans f1, e2.trans f2⟩

/-- The number goes on. -/
def Qu.next (A : Qu) : Qu := { A with last := A.last + 1 }
theorem PQ.next {T E : TypeId} {k B : Nat} {w : World} {A : Qu} {b : Nat} {s : Value} (h : PQ T E k B w A b s) : PQ T E k B (w.setCell ⟨b, 2, none⟩ (.int .i64 (A.last + 1))) A.next b s :=
  ⟨by rw [heap_setCell_same _ _ _ _ _ _ h.blk]; rfl, ownsRow_setCell_other h.own h.ne _, h.hb, h.ne⟩
theorem PQ.alloc {T E : TypeId} {k B : Nat} {w : World} {A : Qu} {b : Nat} {s : Value} (h : PQ T E k B w A b s) (o : Obj) : PQ T E k B (w.alloc o) A b s := h.kept (World.grownBy_alloc w o none) (by simp) (by cases s.ownBlock <;> simp)
theorem PQ.drew {T E : TypeId} {k B : Nat} {w : World} {A : Qu} {b : Nat} {s : Value} (h : PQ T E k B w A b s) : PQ T E k B w.drew A b s := ⟨h.blk, h.own, h.hb, h.ne⟩
/-- One more element. -/
def Qu.push (A : Qu) (v : Value) : Qu := { limit := A.limit, l := A.l ++ [(v, A.last + 1)], last := A.last + 1 }
/-- The pointer's own cells behind an append. -/
theorem PQ.grown1 {T E : TypeId} {k B : Nat} {w w3 : World} {A : Qu} {b : Nat} {s : Value} {o : Obj} (h : PQ T E k B w A b s) (hg : (w.alloc o).grownBy w3 s.ownBlock) : w3.cell? ⟨b, 1, none⟩ = some s ∧ w3.frozen? ⟨b, 1, none⟩ = false := by
  have hb := (hg.block b (by simpa using Nat.lt_succ_of_lt h.lt) (fun e => h.ne e.symm)).trans (h.alloc o).blk
  exact ⟨by rw [cell_of_row _ _ _ _ _ _ hb]; rfl, frozen_of_row _ _ _ _ _ hb⟩
theorem PQ.pushed {T E : TypeId} {k B : Nat} {w w3 : World} {A : Qu} {b : Nat} {s : Value} {o : Obj} {v : Value} {g cap : Nat} (h : PQ T E k B w A.next b s) (hg : (w.alloc o).grownBy w3 s.ownBlock)
    (hown : w3.ownsRow B E (k + 1) (.slice (some ⟨g, 0, none⟩) (A.l.length + 1) cap) (A.l.length + 1) (flat A.l ++ (cellsOf v ++ [.int .i64 (A.last + 1)]))) (hat : s.ownBlock = some g ∨ g = (w.alloc o).heap.size) :
    PQ T E k B (w3.setCell ⟨b, 1, none⟩ (.slice (some ⟨g, 0, none⟩) (A.l.length + 1) cap)) (A.push v) b (.slice (some ⟨g, 0, none⟩) (A.l.length + 1) cap) := by
  have hb := (hg.block b (by simpa using Nat.lt_succ_of_lt h.lt) (fun e => h.ne e.symm)).trans (h.alloc o).blk
  have hgb : g ≠ b := by
    rintro rfl
    rcases hat with e | e
    · exact h.ne e
    · have := h.lt; simp at e; omega
  have hne : (Value.slice (some ⟨g, 0, none⟩) (A.l.length + 1) cap).ownBlock ≠ some b := by simpa [Value.ownBlock] using hgb
  refine ⟨?_, ?_, h.hb, hne⟩
  · rw [heap_setCell_same _ _ _ _ _ _ hb]; rfl
  · have := ownsRow_setCell_other hown (a := ⟨b, 1, none⟩) hne (.slice (some ⟨g, 0, none⟩) (A.l.length + 1) cap)
    simpa [Qu.push, flat_append, flat_one] using this
theorem PQ.new {T E : TypeId} {k B : Nat} {w : World} (hB : B ≤ w.heap.size) (limit : Int) : PQ T E k B (w.alloc (.cells #[.int .i64 limit, .slice none 0 0, .int .i64 0] T)) ⟨limit, [], 0⟩ w.heap.size (.slice none 0 0) :=
  ⟨heap_alloc_new w _, World.ownsRow_nil _ _ _ _, hB, by simp [Value.ownBlock]⟩
theorem good_new {k : Nat} {limit : Int} (h0 : 0 ≤ limit) (h1 : limit ≤ 4096) : Qu.Good k ⟨limit, [], 0⟩ :=
  ⟨h0, h1, by simpa using h0, fun p hp => by simp at hp, Int.le_refl _, fun p hp => by simp at hp, by simp⟩

theorem Keeps.drew {S : Nat → Prop} {w w' : World} (h : Keeps S w w') : Keeps S w w'.drew := ⟨h.os, h.tape, h.output, h.size, h.block⟩
theorem Keeps.drewN {S : Nat → Prop} {w w' : World} (h : Keeps S w w') (n : Nat) : Keeps S w (w'.drewN n) := ⟨h.os, h.tape, h.output, h.size, h.block⟩
theorem Keeps.setCell {S : Nat → Prop} {w w' : World} (h : Keeps S w w') (p : Addr) (u : Value) (hp : S p.block ∨ w.heap.size ≤ p.block) : Keeps S w (w'.setCell p u) :=
  ⟨h.os, h.tape, h.output, by simpa [World.setCell] using h.size, fun b hb hn => (Below.heap_setCell w' p u b (fun e => by subst e; rcases hp with hp | hp; exact hn hp; omega)).trans (h.block b hb hn)⟩
theorem Keeps.alloc {S : Nat → Prop} {w w' : World} (h : Keeps S w w') (o : Obj) : Keeps S w (w'.alloc o) :=
  h.trans ⟨rfl, rfl, rfl, by simp, fun b hb _ => heap_alloc_old w' o hb⟩
theorem Keeps.grown {S : Nat → Prop} {w w1 w2 : World} {r : Option Nat} (h : Keeps S w w1) (g : w1.grownBy w2 r) (hr : ∀ k, r = some k → S k ∨ w.heap.size ≤ k) : Keeps S w w2 :=
  ⟨g.os.trans h.os, g.tape.trans h.tape, g.output.trans h.output, Nat.le_trans h.size g.size, fun b hb hn => (g.block b (Nat.lt_of_lt_of_le hb h.size) (fun e => by rcases hr b e.symm with k | k; exact hn k; omega)).trans (h.block b hb hn)⟩
theorem own_keeps {S : Nat → Prop} {w w' : World} {B e n z : Nat} {v : Value} {xs : List Value} (h : w.ownsRow B e z v n xs) (hk : Keeps S w w') (hn : ∀ g, v.ownBlock = some g → ¬ S g) : w'.ownsRow B e z v n xs := by
  refine ⟨h.1, ?_⟩
  rcases h.2 with h2 | ⟨g, cap, cur, rfl, hb, hgg, rest⟩
  · exact .inl h2
  · refine .inr ⟨g, cap, cur, rfl, hb, ?_, rest⟩
    rw [hk.block g (Array.getElem?_eq_some_iff.1 hgg).1 (hn g rfl)]
    exact hgg
theorem PQ.keeps {T E : TypeId} {k B : Nat} {w w' : World} {A : Qu} {b : Nat} {s : Value} {S : Nat → Prop} (h : PQ T E k B w A b s) (hk : Keeps S w w') (h0 : ¬ S b) (h1 : ∀ g, s.ownBlock = some g → ¬ S g) : PQ T E k B w' A b s :=
  ⟨(hk.block b h.lt h0).trans h.blk, own_keeps h.own hk h1, h.hb, h.ne⟩
theorem PQ.below {T E : TypeId} {k B : Nat} {w w' : World} {A : Qu} {b : Nat} {s : Value} (h : PQ T E k B w A b s) (hk : Below w.heap.size w w') : PQ T E k B w' A b s :=
  h.keeps (S := fun _ => False) (Keeps.of_below hk) (fun k => k) (fun _ _ k => k)
theorem Queue.keeps {T E : TypeId} {k B : Nat} {w w' : World} {A : Qu} {S R : Nat → Prop} {v : Value} (h : Queue T E k S B w A v) (hk : Keeps R w w') (hd : ∀ x, S x → ¬ R x) : Queue T E k S B w' A v := by
  obtain ⟨b, s, rfl, h, hS⟩ := h
  exact ⟨b, s, rfl, h.keeps hk (hd b ((hS b).2 (.inl rfl))) (fun g e => hd g ((hS g).2 (.inr e))), hS⟩
theorem Queue.below {T E : TypeId} {k B : Nat} {w w' : World} {A : Qu} {S : Nat → Prop} {v : Value} (h : Queue T E k S B w A v) (hk : Below w.heap.size w w') : Queue T E k S B w' A v :=
  h.keeps (R := fun _ => False) (Keeps.of_below hk) (fun _ _ k => k)

/-- What the program's errors are. -/
def errV (n : Int) : Value := if n = 0 then .nilIface else .iface 65 (.int .i64 n)
theorem errV_0 : errV 0 = .nilIface := rfl
theorem errV_ne {n : Int} (h : n ≠ 0) : errV n = .iface 65 (.int .i64 n) := if_neg h
end Go.Proofs.YtedgchafligndaaGreat
/- Words for a row of memory known whole: stores of many cells into it, the zeroing of a part; nothing of the program; no condition. -/
namespace Go.Proofs.YtedgchafligndaaGreat
open Go.RowKit

/-- Block g is a row of the cells cur. -/
def Row (E : TypeId) (w : World) (g : Nat) (cur : List Value) : Prop := w.heap[g]? = some (.cells cur.toArray E (0, 0))
theorem Row.lt {E : TypeId} {w : World} {g : Nat} {cur : List Value} (h : Row E w g cur) : g < w.heap.size := (Array.getElem?_eq_some_iff.1 h).1
theorem Row.cell {E : TypeId} {w : World} {g : Nat} {cur : List Value} (h : Row E w g cur) (j : Nat) : w.cell? ⟨g, j, none⟩ = cur[j]? := by
  rw [cell_of_row _ _ _ _ _ _ h]; simp
theorem Row.free {E : TypeId} {w : World} {g : Nat} {cur : List Value} (h : Row E w g cur) (j : Nat) : w.frozen? ⟨g, j, none⟩ = false := frozen_of_row _ _ _ _ _ h
theorem Row.drew {E : TypeId} {w : World} {g : Nat} {cur : List Value} (h : Row E w g cur) : Row E w.drew g cur := h
/-- The list with some of its places laid anew. -/
def splice (cur : List Value) (o : Nat) (vs : List Value) : List Value := cur.take o ++ (vs ++ cur.drop (o + vs.length))
theorem splice_len {cur : List Value} {o : Nat} {vs : List Value} (h : o + vs.length ≤ cur.length) : (splice cur o vs).length = cur.length := by
  simp [splice]; omega
theorem splice_cons {cur : List Value} {o : Nat} {v : Value} {r : List Value} (h : o < cur.length) : splice (cur.set o v) (o + 1) r = splice cur o (v :: r) := by
  obtain ⟨a, x, b, rfl, rfl⟩ : ∃ a x b, cur = a ++ x :: b ∧ a.length = o :=
    ⟨cur.take o, cur[o], cur.drop (o + 1), by rw [← List.drop_eq_getElem_cons h, List.take_append_drop], by simp; omega⟩
  have e1 : ∀ (y : Value) (k : Nat), (a ++ y :: b).drop (a.length + (k + 1)) = b.drop k := fun y k => by
    rw [List.drop_append, List.drop_of_length_le (by omega), show a.length + (k + 1) - a.length = k + 1 from by omega]; simp
  have e2 : ∀ (y : Value), (a ++ y :: b).take a.length = a := fun y => by simp
  have e3 : ∀ (y : Value), (a ++ y :: b).take (a.length + 1) = a ++ [y] := fun y => by rw [List.take_append, List.take_of_length_le (by omega)]; simp
  have e4 : (a ++ x :: b).set a.length v = a ++ v :: b := by simp
  unfold splice
  rw [e4, e3, e2, List.length_cons, e1, show a.length + 1 + r.length = a.length + (r.length + 1) from by omega, e1]
  simp
theorem Row.setCells {E : TypeId} {g : Nat} : ∀ (vs : List Value) {w : World} {cur : List Value} (o : Nat), Row E w g cur → o + vs.length ≤ cur.length → Row E (w.setCells g o vs) g (splice cur o vs)
  | [], w, cur, o, h, _ => by simpa [World.setCells, splice] using h
  | v :: r, w, cur, o, h, hl => by
    have h1 : Row E (w.setCell ⟨g, o, none⟩ v) g (cur.set o v) := by
      unfold Row
      rw [heap_setCell_same _ _ _ _ _ _ h]
      simp
    have := Row.setCells r (o + 1) h1 (by simp at hl ⊢; omega)
    rw [splice_cons (by simp at hl; omega)] at this
    exact this
theorem setCells_keeps {S : Nat → Prop} {g : Nat} {w0 : World} : ∀ (vs : List Value) {w : World} (o : Nat), Keeps S w0 w → (S g ∨ w0.heap.size ≤ g) → Keeps S w0 (w.setCells g o vs)
  | [], _, _, h, _ => h
  | v :: r, _, o, h, hg => setCells_keeps r (o + 1) (h.setCell ⟨g, o, none⟩ v hg) hg
theorem own_of_row {E : TypeId} {z B n cap g : Nat} {w : World} {cur xs : List Value} (h : Row E w g cur) (hB : B ≤ g) (hn : n ≤ cap) (hc : cap ≤ maxLen) (hl : cur.length = cap * z) (hx : cur.take (n * z) = xs) :
    w.ownsRow B E z (.slice (some ⟨g, 0, none⟩) n cap) n xs :=
  ⟨by rw [← hx, List.length_take, hl, Nat.min_eq_left (Nat.mul_le_mul_right z hn)], .inr ⟨g, cap, cur.toArray, rfl, hB, h, hn, hc, by simpa using hl, by simpa using hx⟩⟩
theorem row_of_own {E : TypeId} {z B n cap g : Nat} {w : World} {xs : List Value} (h : w.ownsRow B E z (.slice (some ⟨g, 0, none⟩) n cap) n xs) :
    ∃ cur, Row E w g cur ∧ B ≤ g ∧ n ≤ cap ∧ cap ≤ maxLen ∧ cur.length = cap * z ∧ cur.take (n * z) = xs := by
  rcases h.2 with ⟨h, _⟩ | ⟨g', cap', cur, e, hb, hg, hn, hm, hs, ht⟩
  · cases h
  · cases e
    exact ⟨cur.toList, by simpa [Row] using hg, hb, hn, hm, by simpa using hs, ht⟩
theorem splice_take {cur : List Value} {o m : Nat} {vs : List Value} (h : m ≤ o) (ho : o ≤ cur.length) : (splice cur o vs).take m = cur.take m := by
  unfold splice
  rw [List.take_append_of_le_length (by simp; omega), List.take_take, Nat.min_eq_left h]
theorem splice_mid {cur : List Value} {o : Nat} {vs : List Value} (ho : o ≤ cur.length) : (splice cur o vs).take (o + vs.length) = cur.take o ++ vs := by
  unfold splice
  rw [← List.append_assoc]
  exact List.take_left' (by simp; omega)

/-- The zero cells of many elements. -/
def zeros (z : Array Value) (n : Nat) : List Value := (Builtin.zeroCells z n).toList
theorem zeros_len (z : Array Value) (n : Nat) : (zeros z n).length = n * z.size := by simp [zeros, Builtin.zeroCells]
theorem zeros_one {z : Array Value} (hz : ∀ v ∈ z, v.oneCell' = true) (n : Nat) : ∀ v ∈ zeros z n, v.oneCell' = true := by
  intro v hv
  simp only [zeros, Builtin.zeroCells, Array.toList_map, List.mem_map, Array.toList_range, List.mem_range] at hv
  obtain ⟨i, hi, rfl⟩ := hv
  have h0 : 0 < z.size := by
    rcases Nat.eq_zero_or_pos z.size with h | h
    · rw [h] at hi; omega
    · exact h
  have := Nat.mod_lt i h0
  rw [getElem!_pos z _ this]
  exact hz _ (Array.getElem_mem this)
/-- clear of a part of a row, its elements of any number of cells. -/
theorem run_clear_row {P : Program} (w : World) (t e ty : TypeId) (z : Value) (ht : P.underlying t = some (.slice e)) (hv : ∀ w, (zeroValue e).run P w = .ok z w) (h1 : ∀ v ∈ z.cells, v.oneCell' = true) {g : Nat} {cur : List Value} (h : Row e w g cur) (o n c : Nat) (hn : 0 < n)
    (hl : o + n * z.cells.size ≤ cur.length) :
    (Builtin.clear_ #[t] ty #[.slice (some ⟨g, o, none⟩) n c]).run P w = .ok (.tuple #[]) (w.setCells g o (zeros z.cells n)) := by
  have hst := run_storeCells_cells (P := P) g o (zeros z.cells n) 0 w
    (fun j hj => by rw [zeros_len] at hj; rw [h.cell, Nat.add_zero, List.getElem?_eq_getElem (by omega)]; rfl) (fun j _ => h.free _) (zeros_one h1 n)
  simp only [Nat.add_zero] at hst
  obtain ⟨m, rfl⟩ : ∃ m, n = m + 1 := ⟨n - 1, by omega⟩
  unfold zeros at hst ⊢
  simp [Builtin.clear_, run_underlying ht, hv, hst]
/-- One element less. -/
def Qu.drop (A : Qu) (i : Nat) : Qu := { A with l := A.l.eraseIdx i }
theorem Qu.Good.drop {k : Nat} {A : Qu} (h : A.Good k) (i : Nat) : (A.drop i).Good k := by
  have hsub : ∀ p, p ∈ A.l.eraseIdx i → p ∈ A.l := fun p hp => List.mem_of_mem_eraseIdx hp
  refine ⟨h.l0, h.l1, ?_, fun p hp => h.wd p (hsub p hp), h.z0, fun p hp => h.nums p (hsub p hp), ?_⟩
  · have := h.len
    have := List.length_eraseIdx_le A.l i
    simp [Qu.drop]; omega
  · simp only [Qu.drop]
    exact (List.Sublist.map _ (List.eraseIdx_sublist ..)).nodup h.nd
/-- Another slice is laid in the queue's cell. -/
theorem PQ.relaid {T E : TypeId} {k B : Nat} {w w1 : World} {A : Qu} {b : Nat} {s s' : Value} {l' : List (Value × Int)} (h : PQ T E k B w A b s) (hk : Keeps (fun x => s.ownBlock = some x) w w1)
    (hown : w1.ownsRow B E (k + 1) s' l'.length (flat l')) (hs : s'.ownBlock = s.ownBlock) :
    PQ T E k B (w1.setCell ⟨b, 1, none⟩ s') { A with l := l' } b s' := by
  have hb := (hk.block b h.lt (fun e => h.ne e)).trans h.blk
  refine ⟨by rw [heap_setCell_same _ _ _ _ _ _ hb]; rfl, ownsRow_setCell_other hown (a := ⟨b, 1, none⟩) (by rw [hs]; exact h.ne) _, h.hb, by rw [hs]; exact h.ne⟩
theorem PQ.relaid_cell {T E : TypeId} {k B : Nat} {w w1 : World} {A : Qu} {b : Nat} {s : Value} (h : PQ T E k B w A b s) (hk : Keeps (fun x => s.ownBlock = some x) w w1) : w1.cell? ⟨b, 1, none⟩ = some s ∧ w1.frozen? ⟨b, 1, none⟩ = false := by
  have hb := (hk.block b h.lt (fun e => h.ne e)).trans h.blk
  exact ⟨by rw [cell_of_row _ _ _ _ _ _ hb]; rfl, frozen_of_row _ _ _ _ _ hb⟩
/-- Two results, whatever became of the world. -/
def Gives2 (R : World → Prop) (x y : Value) (e : Ending) (w' : World) : Prop := e = .returned (.tuple #[x, y]) ∧ R w'
theorem own_slice {w : World} {B e z n : Nat} {v : Value} {xs : List Value} (h : w.ownsRow B e z v n xs) : ∃ p cap, v = .slice p n cap := by
  rcases h.2 with ⟨rfl, h0⟩ | ⟨g, cap, cur, rfl, _⟩
  · exact ⟨_, _, by rw [h0]⟩
  · exact ⟨_, _, rfl⟩
/-- What a queue's own blocks alone turned leaves what lay below. -/
theorem PQ.under {T E : TypeId} {k B : Nat} {w w1 : World} {A : Qu} {b : Nat} {s : Value} (h : PQ T E k B w A b s) (hk : Keeps (fun x => x = b ∨ s.ownBlock = some x) w w1) : Below B w w1 :=
  hk.below (Nat.le_of_lt (Nat.lt_of_le_of_lt h.hb h.lt)) (fun x hx => by
    rcases hx with rfl | e
    · exact h.hb
    · exact (h.own.lt x e).1)
end Go.Proofs.YtedgchafligndaaGreat
/- Small laws of stage 11's texts, beside stage 4's and 5's: what stays where some blocks turn, rows of the call's own, blocks known whole; nothing of the program is walked; no condition. -/
namespace Go.Proofs.YtedgchafligndaaGreat
open Go.RowKit

theorem Tryz.info3 : (Tryz.prog.info? 3).map (fun i => (i.zero, i.size, i.bytes)) = some (some (.int .i64 0), 1, 8) := by kernel_rfl
theorem Tryz.info4 : (Tryz.prog.info? 4).map (fun i => (i.zero, i.size, i.bytes)) = some (some (.bool false), 1, 1) := by kernel_rfl
theorem addr_plus (b off j : Nat) : (⟨b, off, none⟩ : Addr).add j = ⟨b, off + j, none⟩ := by
  unfold Addr.add
  split
  · next h => subst h; rfl
  · rfl
theorem below_of_grown {w w' : World} (h : w.grownBy w' none) : Below w.heap.size w w' := (Below.refl _ _).grown h (Nat.le_refl _) (fun _ h => by cases h)
theorem grown_set (w : World) (p : Addr) (u : Value) : w.grownBy (w.setCell p u) (some p.block) :=
  ⟨rfl, rfl, rfl, by simp [World.setCell], fun i _ hne => Below.heap_setCell w p u i (fun e => hne (by rw [e]))⟩
theorem own_other {e B n : Nat} {w : World} {v : Value} {xs : List Value} (h : w.ownsRow B e 1 v n xs) (p : Addr) (u : Value) (hp : v.ownBlock ≠ some p.block) : (w.setCell p u).ownsRow B e 1 v n xs :=
  World.ownsRow.kept (row := some p.block) h (grown_set w p u) (.inr hp)
theorem ret_two {a b x y : Int} (h1 : a = x) (h2 : b = y) : Ending.returned (.tuple #[.int .i64 a, .int .i64 b]) = .returned (.tuple #[.int .i64 x, .int .i64 y]) := by rw [h1, h2]
theorem ints_set (l : List Int) (i : Nat) (v : Int) : (ints l).set i (.int .i64 v) = ints (l.set i v) := by unfold ints; rw [List.map_set]
theorem bools_set (l : List Bool) (i : Nat) (v : Bool) : (bools l).set i (.bool v) = bools (l.set i v) := by unfold bools; rw [List.map_set]
theorem below_keeps {S : Nat → Prop} {w w1 w2 : World} (h : Below w.heap.size w w1) (k : Keeps S w1 w2) (hS : ∀ b, S b → w.heap.size ≤ b) : Below w.heap.size w w2 :=
  h.trans (k.below h.size hS)
theorem own_base {B B' e n : Nat} {w : World} {v : Value} {xs : List Value} (h : w.ownsRow B e 1 v n xs) (hb : B' ≤ B) : w.ownsRow B' e 1 v n xs := by
  refine ⟨h.1, ?_⟩
  rcases h.2 with h2 | ⟨g, cap, cur, rfl, h3, rest⟩
  · exact .inl h2
  · exact .inr ⟨g, cap, cur, rfl, Nat.le_trans hb h3, rest⟩
theorem own_made {B : Nat} (W : World) (e : TypeId) (z : Value) (n s : Nat) (hs : s = W.heap.size) (hb : B ≤ s) (hn : n ≤ 4096) : (W.alloc (.cells (madeCells #[z] n) e)).ownsRow B e 1 (.slice (some ⟨s, 0, none⟩) n n) n (List.replicate n z) := by
  subst hs
  rw [← toList_madeCells_one]
  exact World.ownsRow_lit W _ n hb (by unfold maxLen; omega) (by simp [size_madeCells])
theorem own_drew {B e n : Nat} {w : World} {v : Value} {xs : List Value} (h : w.ownsRow B e 1 v n xs) : w.drew.ownsRow B e 1 v n xs := h
theorem below_drew {B : Nat} {w a : World} (h : Below B w a) : Below B w a.drew := ⟨h.os, h.tape, h.output, h.size, h.block⟩
theorem below_alloc {w a : World} (h : Below w.heap.size w a) (o : Obj) : Below w.heap.size w (a.alloc o) := h.alloc h.size o
theorem own_cells {B e n cap : Nat} {w : World} {g : Nat} {xs : List Value} (h : w.ownsRow B e 1 (.slice (some ⟨g, 0, none⟩) n cap) n xs) : ∀ j u, xs[j]? = some u → w.cell? ⟨g, 0 + j, none⟩ = some u := by
  intro j u hu
  have := h.cells (g := g) rfl j u hu
  rw [addr_add] at this
  exact this
theorem below_drewOne {w : World} : Below w.heap.size w w.drew := ⟨rfl, rfl, rfl, Nat.le_refl _, fun _ _ => rfl⟩
theorem own_drewN {B e n : Nat} {w : World} {v : Value} {xs : List Value} (h : w.ownsRow B e 1 v n xs) (k : Nat) : (w.drewN k).ownsRow B e 1 v n xs := h
theorem own_block {w : World} {B e n : Nat} {v : Value} {xs : List Value} (h : w.ownsRow B e 1 v n xs) (hn : 0 < n) : ∃ g cap cur, v = .slice (some ⟨g, 0, none⟩) n cap ∧ B ≤ g ∧ w.heap[g]? = some (.cells cur e (0, 0)) := by
  rcases h.2 with ⟨_, h0⟩ | ⟨g, cap, cur, hv, hb, hg, _⟩
  · omega
  · exact ⟨g, cap, cur, hv, hb, hg⟩
/-- A block of a world. -/
def Has (W : World) (g : Nat) (o : Obj) : Prop := W.heap[g]? = some o
theorem has_new (W : World) (o : Obj) (g : Nat) (hg : g = W.heap.size) : Has (W.alloc o) g o := by subst hg; exact heap_alloc_new W o
theorem has_old {W : World} {o : Obj} {g : Nat} (h : Has W g o) (o' : Obj) : Has (W.alloc o') g o := (heap_alloc_old W o' (Array.getElem?_eq_some_iff.1 h).1).trans h
theorem has_drew {W : World} {o : Obj} {g : Nat} (h : Has W g o) : Has W.drew g o := h
theorem has_cell {W : World} {g : Nat} {cs : Array Value} {T : TypeId} (h : Has W g (.cells cs T (0, 0))) (j : Nat) : W.cell? ⟨g, j, none⟩ = cs[j]? := cell_of_row W g j cs T (0, 0) h
theorem has_free {W : World} {g : Nat} {cs : Array Value} {T : TypeId} (h : Has W g (.cells cs T (0, 0))) (j : Nat) : W.frozen? ⟨g, j, none⟩ = false := by
  unfold Has at h
  simp [World.frozen?, h]
theorem has_lt {W : World} {o : Obj} {g : Nat} (h : Has W g o) : g < W.heap.size := (Array.getElem?_eq_some_iff.1 h).1
theorem own_has {W : World} {B e n g : Nat} {z : Value} (h : Has W g (.cells (madeCells #[z] n) e)) (hb : B ≤ g) (hn : n ≤ 4096) : W.ownsRow B e 1 (.slice (some ⟨g, 0, none⟩) n n) n (List.replicate n z) := by
  refine ⟨by simp, .inr ⟨g, n, _, rfl, hb, h, Nat.le_refl _, by unfold maxLen; omega, by simp [size_madeCells], ?_⟩⟩
  rw [toList_madeCells_one]
  simp
theorem own_under {B e z n : Nat} {w w' : World} {v : Value} {xs : List Value} (h : w.ownsRow B e z v n xs) (hb : Below w.heap.size w w') : w'.ownsRow B e z v n xs :=
  World.ownsRow.kept (row := none) h ⟨hb.os, hb.tape, hb.output, hb.size, fun i hi _ => hb.block i hi⟩ (Classical.em _)
theorem own_keep {S : Nat → Prop} {B e z n : Nat} {w w' : World} {v : Value} {xs : List Value} (h : w.ownsRow B e z v n xs) (hk : Keeps S w w') (hn : ∀ b, v.ownBlock = some b → ¬ S b) : w'.ownsRow B e z v n xs := by
  refine ⟨h.1, h.2.imp id ?_⟩
  rintro ⟨g, cap, cur, rfl, hB, hg, hc⟩
  exact ⟨g, cap, cur, rfl, hB, (hk.block g (Array.getElem?_eq_some_iff.1 hg).1 (hn g rfl)).trans hg, hc⟩
theorem own_base2 {B B' e z n : Nat} {w : World} {v : Value} {xs : List Value} (h : w.ownsRow B e z v n xs) (hB : B' ≤ B) : w.ownsRow B' e z v n xs :=
  ⟨h.1, h.2.imp id (fun ⟨g, cap, cur, e, hb, r⟩ => ⟨g, cap, cur, e, Nat.le_trans hB hb, r⟩)⟩
theorem own_block2 {w : World} {B e z n : Nat} {v : Value} {xs : List Value} (h : w.ownsRow B e z v n xs) (hn : 0 < n) : ∃ g cap, v = .slice (some ⟨g, 0, none⟩) n cap ∧ n ≤ cap ∧ B ≤ g ∧ g < w.heap.size := by
  rcases h.2 with ⟨_, h0⟩ | ⟨g, cap, cur, hv, hb, hg, hc, _⟩
  · omega
  · exact ⟨g, cap, hv, hc, hb, (Array.getElem?_eq_some_iff.1 hg).1⟩
theorem own_small {B e z n : Nat} {w : World} {v : Value} {xs : List Value} (h : w.ownsRow B e z v n xs) : ∃ p cap, v = .slice p n cap ∧ n ≤ cap := by
  rcases h.2 with ⟨rfl, h2⟩ | ⟨g, cap, cur, rfl, _, _, hn, _⟩
  · exact ⟨none, 0, by rw [h2], by omega⟩
  · exact ⟨_, _, rfl, hn⟩
end Go.Proofs.YtedgchafligndaaGreat
/- Plain mathematics for stage 3: a table of slots with generations, what is done to it, what is told; nothing of the program; no condition. -/
namespace Go.Proofs.YtedgchafligndaaGreat
open Go.RowKit

/-- A table: its kind; of each slot its generation, whether it is taken, its thing. -/
structure Tab where
  kind : Int
  gens : List Int
  taken : List Bool
  list : List Int

def Tab.n (A : Tab) : Nat := A.gens.length
def Tab.g (A : Tab) (i : Nat) : Int := A.gens.getD i 0
def Tab.t (A : Tab) (i : Nat) : Bool := A.taken.getD i false
def Tab.v (A : Tab) (i : Nat) : Int := A.list.getD i 0

/-- What always holds of one. -/
structure Tab.Good (A : Tab) : Prop where
  k1 : 1 ≤ A.kind
  k3 : A.kind ≤ 3
  n1 : 1 ≤ A.gens.length
  n4 : A.gens.length ≤ 4096
  lt : A.taken.length = A.gens.length
  ll : A.list.length = A.gens.length
  g1 : ∀ i, i < A.gens.length → 1 ≤ A.g i ∧ A.g i ≤ 1024
  gt : ∀ i, i < A.gens.length → A.t i = true → A.g i ≤ 1023

/-- Can slot i be given? -/
def Tab.fr (A : Tab) (i : Nat) : Bool := !A.t i && decide (A.g i ≤ 1023)
def Tab.hd (A : Tab) (i : Nat) : Int := mkH A.kind i (A.g i)
/-- Is slot i that of a handle? -/
def Tab.is (A : Tab) (h : Int) (i : Nat) : Bool := A.t i && decide (A.hd i = h)

def firstIn (p : Nat → Bool) (n : Nat) : Option Nat := (List.range n).find? p
theorem firstIn_some {p : Nat → Bool} {n k : Nat} (h : ∀ j, j < k → p j = false) (hk : k < n) (hp : p k = true) : firstIn p n = some k := by
  unfold firstIn
  rw [List.find?_eq_some_iff_getElem]
  refine ⟨hp, k, by simpa using hk, by simp, fun j hj => ?_⟩
  simp [h j hj]
theorem firstIn_none {p : Nat → Bool} {n : Nat} (h : ∀ j, j < n → p j = false) : firstIn p n = none := by
  unfold firstIn
  rw [List.find?_eq_none]
  intro x hx
  simp [h x (List.mem_range.1 hx)]
theorem firstIn_inv {p : Nat → Bool} {n k : Nat} (h : firstIn p n = some k) : k < n ∧ p k = true := by
  unfold firstIn at h
  exact ⟨by simpa using List.mem_of_find?_eq_some h, List.find?_some h⟩
theorem firstIn_inv_none {p : Nat → Bool} {n : Nat} (h : firstIn p n = none) : ∀ j, j < n → p j = false := by
  unfold firstIn at h
  rw [List.find?_eq_none] at h
  intro j hj
  simpa using h j (List.mem_range.2 hj)

def Tab.free (A : Tab) : Option Nat := firstIn A.fr A.n
def Tab.find (A : Tab) (h : Int) : Option Nat := firstIn (A.is h) A.n
def Tab.idxs (A : Tab) : List Nat := (List.range A.n).filter A.t
def Tab.all (A : Tab) : List Int := A.idxs.map A.hd

/-- A new one. -/
def Tab.new (kind : Int) (n : Nat) : Tab := ⟨kind, List.replicate n 1, List.replicate n false, List.replicate n 0⟩
def Tab.addAt (A : Tab) (i : Nat) (v : Int) : Tab := { A with taken := A.taken.set i true, list := A.list.set i v }
def Tab.setAt (A : Tab) (i : Nat) (v : Int) : Tab := { A with list := A.list.set i v }
def Tab.dropAt (A : Tab) (i : Nat) : Tab := { A with gens := A.gens.set i (A.g i + 1), taken := A.taken.set i false, list := A.list.set i 0 }

theorem getD_set {α : Type} (l : List α) (i j : Nat) (a d : α) (h : i < l.length) : (l.set i a).getD j d = if i = j then a else l.getD j d := by
  simp only [List.getD_eq_getElem?_getD, List.getElem?_set]
  by_cases e : i = j
  · subst e; simp [h]
  · simp [e]

theorem new_good {kind : Int} {n : Nat} (h1 : 1 ≤ kind) (h3 : kind ≤ 3) (n1 : 1 ≤ n) (n4 : n ≤ 4096) : (Tab.new kind n).Good := by
  refine ⟨h1, h3, by simpa [Tab.new] using n1, by simpa [Tab.new] using n4, by simp [Tab.new], by simp [Tab.new], fun i hi => ?_, fun i hi ht => ?_⟩
  · simp only [Tab.new, List.length_replicate] at hi
    simp [Tab.g, Tab.new, List.getD_eq_getElem?_getD, hi]
  · simp only [Tab.new, List.length_replicate] at hi
    simp [Tab.g, Tab.new, List.getD_eq_getElem?_getD, hi]

theorem add_good {A : Tab} (h : A.Good) {i : Nat} (hi : A.free = some i) (v : Int) : (A.addAt i v).Good := by
  obtain ⟨hlt, hf⟩ := firstIn_inv hi
  have hlt' : i < A.gens.length := hlt
  have hg : A.g i ≤ 1023 := by unfold Tab.fr at hf; simp at hf; exact hf.2
  refine ⟨h.k1, h.k3, h.n1, h.n4, by simp [Tab.addAt, h.lt], by simp [Tab.addAt, h.ll], h.g1, fun j hj ht => ?_⟩
  show A.g j ≤ 1023
  by_cases e : i = j
  · subst e; exact hg
  · refine h.gt j hj ?_
    have : (A.addAt i v).t j = A.t j := by unfold Tab.t Tab.addAt; rw [getD_set _ _ _ _ _ (by rw [h.lt]; exact hlt'), if_neg e]
    rw [← this]; exact ht
theorem set_good {A : Tab} (h : A.Good) (i : Nat) (v : Int) : (A.setAt i v).Good :=
  ⟨h.k1, h.k3, h.n1, h.n4, h.lt, by simp [Tab.setAt, h.ll], h.g1, h.gt⟩
theorem drop_good {A : Tab} (h : A.Good) {i : Nat} {x : Int} (hi : A.find x = some i) : (A.dropAt i).Good := by
  obtain ⟨hlt, hf⟩ := firstIn_inv hi
  have hlt' : i < A.gens.length := hlt
  have ht : A.t i = true := by unfold Tab.is at hf; simp at hf; exact hf.1
  have hg := h.gt i hlt' ht
  have hg1 := (h.g1 i hlt').1
  have eg : ∀ j, (A.dropAt i).g j = if i = j then A.g i + 1 else A.g j := fun j => by unfold Tab.g Tab.dropAt; exact getD_set _ _ _ _ _ hlt'
  have et : ∀ j, (A.dropAt i).t j = if i = j then false else A.t j := fun j => by unfold Tab.t Tab.dropAt; exact getD_set _ _ _ _ _ (by rw [h.lt]; exact hlt')
  have el : (A.dropAt i).gens.length = A.gens.length := by simp [Tab.dropAt]
  refine ⟨h.k1, h.k3, by rw [el]; exact h.n1, by rw [el]; exact h.n4, by rw [el]; simp [Tab.dropAt, h.lt], by rw [el]; simp [Tab.dropAt, h.ll], fun j hj => ?_, fun j hj htj => ?_⟩
  · rw [el] at hj
    rw [eg]
    split
    · omega
    · exact h.g1 j hj
  · rw [el] at hj
    rw [et] at htj
    rw [eg]
    by_cases e : i = j
    · rw [if_pos e] at htj; cases htj
    · rw [if_neg e] at htj ⊢; exact h.gt j hj htj

/-- A handle's slot is that of its parts. -/
theorem hd_parts {A : Tab} (h : A.Good) {i : Nat} (hi : i < A.gens.length) (ht : A.t i = true) : okH (A.hd i) ∧ kOf (A.hd i) = A.kind ∧ sOf (A.hd i) = i ∧ gOf (A.hd i) = A.g i := by
  have hp : okP A.kind i (A.g i) := ⟨h.k1, h.k3, by omega, by have := h.n4; omega, (h.g1 i hi).1, h.gt i hi ht⟩
  exact ⟨ok_mk hp, of_mk hp⟩
theorem is_iff {A : Tab} (h : A.Good) (x : Int) {i : Nat} (hi : i < A.gens.length) : A.is x i = true ↔ A.t i = true ∧ okH x ∧ kOf x = A.kind ∧ sOf x = i ∧ gOf x = A.g i := by
  unfold Tab.is
  rw [Bool.and_eq_true, decide_eq_true_eq]
  constructor
  · rintro ⟨ht, rfl⟩
    exact ⟨ht, hd_parts h hi ht⟩
  · rintro ⟨ht, hok, h1, h2, h3⟩
    refine ⟨ht, ?_⟩
    unfold Tab.hd
    rw [← h1, ← h2, ← h3]
    exact mk_of x
/-- What a handle names: the slot that its parts tell, if that is taken and of that generation. -/
theorem find_some {A : Tab} (h : A.Good) {x : Int} {i : Nat} (hi : i < A.gens.length) (ht : A.t i = true) (hok : okH x) (h1 : kOf x = A.kind) (h2 : sOf x = i) (h3 : gOf x = A.g i) : A.find x = some i := by
  refine firstIn_some (fun j hj => ?_) hi ((is_iff h x hi).2 ⟨ht, hok, h1, h2, h3⟩)
  rw [Bool.eq_false_iff]
  intro k
  obtain ⟨_, _, _, h2', _⟩ := (is_iff h x (by omega)).1 k
  omega
theorem find_none {A : Tab} (h : A.Good) {x : Int} (hn : ∀ i, i < A.gens.length → A.t i = true → okH x → kOf x = A.kind → sOf x = i → gOf x ≠ A.g i) : A.find x = none := by
  refine firstIn_none fun j hj => ?_
  rw [Bool.eq_false_iff]
  intro k
  obtain ⟨h0, h1, h2, h3, h4⟩ := (is_iff h x hj).1 k
  exact hn j hj h0 h1 h2 h3 h4
end Go.Proofs.YtedgchafligndaaGreat
/- Plain mathematics for stage 3: no handle is given twice, what is dropped is not good again, how many are taken; nothing of the program; no condition. -/
namespace Go.Proofs.YtedgchafligndaaGreat
open Go.RowKit

theorem count_more {p q : Nat → Bool} {i : Nat} (hp : p i = false) (hq : q i = true) (hj : ∀ j, j ≠ i → q j = p j) : ∀ n, ((List.range n).filter q).length = ((List.range n).filter p).length + if i < n then 1 else 0 := by
  intro n
  induction n with
  | zero => simp
  | succ n ih =>
    rw [List.range_succ, List.filter_append, List.filter_append, List.length_append, List.length_append, ih]
    by_cases e : n = i
    · subst e
      simp [hp, hq]
    · have hle : (i < n + 1) = (i < n) := propext ⟨fun h => by omega, fun h => by omega⟩
      simp only [hle]
      have hqn := hj n e
      cases hpn : p n <;> simp [hqn, hpn] <;> omega

theorem add_t {A : Tab} (h : A.Good) {i : Nat} (hi : i < A.gens.length) (v : Int) (j : Nat) : (A.addAt i v).t j = if i = j then true else A.t j := by
  unfold Tab.t Tab.addAt; exact getD_set _ _ _ _ _ (by rw [h.lt]; exact hi)
theorem drop_t {A : Tab} (h : A.Good) {i : Nat} (hi : i < A.gens.length) (j : Nat) : (A.dropAt i).t j = if i = j then false else A.t j := by
  unfold Tab.t Tab.dropAt; exact getD_set _ _ _ _ _ (by rw [h.lt]; exact hi)
theorem drop_g {A : Tab} {i : Nat} (hi : i < A.gens.length) (j : Nat) : (A.dropAt i).g j = if i = j then A.g i + 1 else A.g j := by
  unfold Tab.g Tab.dropAt; exact getD_set _ _ _ _ _ hi
theorem add_g {A : Tab} (i : Nat) (v : Int) (j : Nat) : (A.addAt i v).g j = A.g j := rfl
theorem add_v {A : Tab} (h : A.Good) {i : Nat} (hi : i < A.gens.length) (v : Int) (j : Nat) : (A.addAt i v).v j = if i = j then v else A.v j := by
  unfold Tab.v Tab.addAt; exact getD_set _ _ _ _ _ (by rw [h.ll]; exact hi)
theorem set_v {A : Tab} (h : A.Good) {i : Nat} (hi : i < A.gens.length) (v : Int) (j : Nat) : (A.setAt i v).v j = if i = j then v else A.v j := by
  unfold Tab.v Tab.setAt; exact getD_set _ _ _ _ _ (by rw [h.ll]; exact hi)
theorem drop_v {A : Tab} (h : A.Good) {i : Nat} (hi : i < A.gens.length) (j : Nat) : (A.dropAt i).v j = if i = j then 0 else A.v j := by
  unfold Tab.v Tab.dropAt; exact getD_set _ _ _ _ _ (by rw [h.ll]; exact hi)

theorem fr_iff {A : Tab} {i : Nat} (hi : A.free = some i) : i < A.gens.length ∧ A.t i = false ∧ A.g i ≤ 1023 := by
  obtain ⟨h1, h2⟩ := firstIn_inv hi
  unfold Tab.fr at h2
  simp at h2
  exact ⟨h1, h2.1, h2.2⟩
theorem find_inv {A : Tab} {x : Int} {i : Nat} (hi : A.find x = some i) : i < A.gens.length ∧ A.t i = true ∧ A.hd i = x := by
  obtain ⟨h1, h2⟩ := firstIn_inv hi
  unfold Tab.is at h2
  simp at h2
  exact ⟨h1, h2.1, h2.2⟩
theorem add_len {A : Tab} (h : A.Good) {i : Nat} (hi : A.free = some i) (v : Int) : (A.addAt i v).idxs.length = A.idxs.length + 1 := by
  obtain ⟨h1, h2, _⟩ := fr_iff hi
  have := count_more (p := A.t) (q := (A.addAt i v).t) h2 (by rw [add_t h h1, if_pos rfl]) (fun j hj => by rw [add_t h h1, if_neg fun e => hj e.symm]) A.gens.length
  rw [if_pos h1] at this
  exact this
theorem drop_len {A : Tab} (h : A.Good) {x : Int} {i : Nat} (hi : A.find x = some i) : (A.dropAt i).idxs.length + 1 = A.idxs.length := by
  obtain ⟨h1, h2, _⟩ := find_inv hi
  have := count_more (p := (A.dropAt i).t) (q := A.t) (by rw [drop_t h h1, if_pos rfl]) h2 (fun j hj => by rw [drop_t h h1, if_neg fun e => hj e.symm]) A.gens.length
  rw [if_pos h1] at this
  have e : (A.dropAt i).idxs = (List.range A.gens.length).filter (A.dropAt i).t := by unfold Tab.idxs Tab.n; simp [Tab.dropAt]
  rw [e]
  exact this.symm
theorem all_len (A : Tab) : A.all.length = A.idxs.length := by unfold Tab.all; simp

/-- A handle that was given: of a generation that is gone, or of the one that is taken. -/
def Old (A : Tab) (x : Int) : Prop := okH x ∧ kOf x = A.kind ∧ ∃ i : Nat, i < A.gens.length ∧ sOf x = i ∧ (gOf x < A.g i ∨ (gOf x = A.g i ∧ A.t i = true))
/-- One that was dropped. -/
def Gone (A : Tab) (x : Int) : Prop := okH x ∧ kOf x = A.kind ∧ ∃ i : Nat, i < A.gens.length ∧ sOf x = i ∧ gOf x < A.g i
theorem gone_find {A : Tab} (h : A.Good) {x : Int} (hx : Gone A x) : A.find x = none := by
  obtain ⟨_, _, i, hi, hs, hg⟩ := hx
  refine find_none h fun j hj _ _ _ hsj hgj => ?_
  have : j = i := by omega
  subst this
  omega
theorem new_hd {A : Tab} (h : A.Good) {i : Nat} (hi : A.free = some i) : okH (A.hd i) ∧ kOf (A.hd i) = A.kind ∧ sOf (A.hd i) = i ∧ gOf (A.hd i) = A.g i := by
  obtain ⟨h1, _, h3⟩ := fr_iff hi
  have hp : okP A.kind i (A.g i) := ⟨h.k1, h.k3, by omega, by have := h.n4; omega, (h.g1 i h1).1, h3⟩
  exact ⟨ok_mk hp, of_mk hp⟩
theorem old_ne {A : Tab} (h : A.Good) {i : Nat} (hi : A.free = some i) {x : Int} (hx : Old A x) : x ≠ A.hd i := by
  obtain ⟨_, _, j, hj, hs, hg⟩ := hx
  obtain ⟨_, _, n3, n4⟩ := new_hd h hi
  obtain ⟨_, h2, _⟩ := fr_iff hi
  rintro rfl
  have : j = i := by omega
  subst this
  rcases hg with hg | ⟨_, hg⟩
  · omega
  · rw [h2] at hg; cases hg
theorem old_new {A : Tab} (h : A.Good) {i : Nat} (hi : A.free = some i) (v : Int) : Old (A.addAt i v) (A.hd i) := by
  obtain ⟨n1, n2, n3, n4⟩ := new_hd h hi
  obtain ⟨h1, _, _⟩ := fr_iff hi
  exact ⟨n1, n2, i, h1, n3, .inr ⟨n4, by rw [add_t h h1, if_pos rfl]⟩⟩
theorem old_add {A : Tab} (h : A.Good) {i : Nat} (hi : A.free = some i) (v : Int) {x : Int} (hx : Old A x) : Old (A.addAt i v) x := by
  obtain ⟨a, b, j, hj, hs, hg⟩ := hx
  obtain ⟨h1, h2, _⟩ := fr_iff hi
  refine ⟨a, b, j, hj, hs, ?_⟩
  rcases hg with hg | ⟨hg, ht⟩
  · exact .inl hg
  · refine .inr ⟨hg, ?_⟩
    rw [add_t h h1]
    split
    · rfl
    · exact ht
theorem gone_add {A : Tab} {i : Nat} (v : Int) {x : Int} (hx : Gone A x) : Gone (A.addAt i v) x := hx
theorem old_drop {A : Tab} (h : A.Good) {y : Int} {i : Nat} (hi : A.find y = some i) {x : Int} (hx : Old A x) : Old (A.dropAt i) x := by
  obtain ⟨a, b, j, hj, hs, hg⟩ := hx
  obtain ⟨h1, _, _⟩ := find_inv hi
  refine ⟨a, b, j, by simpa [Tab.dropAt] using hj, hs, ?_⟩
  rw [drop_g h1, drop_t h h1]
  by_cases e : i = j
  · subst e
    rw [if_pos rfl]
    left
    rcases hg with hg | ⟨hg, _⟩ <;> omega
  · rw [if_neg e, if_neg e]; exact hg
theorem gone_drop {A : Tab} {y : Int} {i : Nat} (hi : A.find y = some i) {x : Int} (hx : Gone A x) : Gone (A.dropAt i) x := by
  obtain ⟨a, b, j, hj, hs, hg⟩ := hx
  obtain ⟨h1, _, _⟩ := find_inv hi
  refine ⟨a, b, j, by simpa [Tab.dropAt] using hj, hs, ?_⟩
  rw [drop_g h1]
  by_cases e : i = j
  · subst e; rw [if_pos rfl]; omega
  · rw [if_neg e]; exact hg
theorem gone_new {A : Tab} (h : A.Good) {y : Int} {i : Nat} (hi : A.find y = some i) : Gone (A.dropAt i) y := by
  obtain ⟨h1, h2, rfl⟩ := find_inv hi
  obtain ⟨n1, n2, n3, n4⟩ := hd_parts h h1 h2
  exact ⟨n1, n2, i, by simpa [Tab.dropAt] using h1, n3, by rw [drop_g h1, if_pos rfl, n4]; omega⟩
end Go.Proofs.YtedgchafligndaaGreat
/- Plain mathematics for stage 3: a table of slots and things that are told; nothing of the program; no condition. -/
namespace Go.Proofs.YtedgchafligndaaGreat
open Go.RowKit

/-- How many of the slots ahead are taken. -/
def rank (taken : List Bool) (i : Nat) : Nat := ((List.range i).filter fun j => taken.getD j false).length
theorem rank_0 (taken : List Bool) : rank taken 0 = 0 := rfl
theorem rank_succ (taken : List Bool) (i : Nat) : rank taken (i + 1) = rank taken i + if taken.getD i false = true then 1 else 0 := by
  unfold rank
  rw [List.range_succ, List.filter_append, List.length_append, List.filter_cons, List.filter_nil]
  generalize taken.getD i false = b
  cases b <;> rfl
theorem rank_mono (taken : List Bool) {i j : Nat} (h : i ≤ j) : rank taken i ≤ rank taken j := by
  induction j with
  | zero => have : i = 0 := by omega
            subst this; exact Nat.le_refl _
  | succ j ih =>
    by_cases e : i = j + 1
    · subst e; exact Nat.le_refl _
    · have := ih (by omega)
      rw [rank_succ]; omega
theorem rank_le (taken : List Bool) (i : Nat) : rank taken i ≤ i := by
  unfold rank
  have := List.length_filter_le (fun j => taken.getD j false) (List.range i)
  simpa using this

/-- May a slot be so? -/
def okG (gens : List Int) (taken : List Bool) (i : Nat) : Prop := 1 ≤ gens.getD i 0 ∧ gens.getD i 0 ≤ if taken.getD i false = true then 1023 else 1024
instance (gens : List Int) (taken : List Bool) (i : Nat) : Decidable (okG gens taken i) := by unfold okG; infer_instance
def fillL (n : Nat) (taken : List Bool) (things : List Int) : List Int := (List.range n).map fun i => if taken.getD i false = true then things.getD (rank taken i) 0 else 0
theorem fillL_len (n : Nat) (taken : List Bool) (things : List Int) : (fillL n taken things).length = n := by simp [fillL]
theorem fillL_at {n i : Nat} (taken : List Bool) (things : List Int) (h : i < n) : (fillL n taken things).getD i 0 = if taken.getD i false = true then things.getD (rank taken i) 0 else 0 := by
  simp [fillL, List.getD_eq_getElem?_getD, h]
def Tab.load (kind : Int) (gens : List Int) (taken : List Bool) (things : List Int) : Tab := ⟨kind, gens, taken, fillL gens.length taken things⟩
theorem load_good {kind : Int} {gens : List Int} {taken : List Bool} {things : List Int} (h1 : 1 ≤ kind) (h3 : kind ≤ 3) (n1 : 1 ≤ gens.length) (n4 : gens.length ≤ 4096) (ht : taken.length = gens.length)
    (hg : ∀ i, i < gens.length → okG gens taken i) : (Tab.load kind gens taken things).Good := by
  refine ⟨h1, h3, n1, n4, ht, by simp [Tab.load, fillL_len], fun i hi => ?_, fun i hi hti => ?_⟩
  · obtain ⟨a, b⟩ := hg i hi
    show 1 ≤ gens.getD i 0 ∧ gens.getD i 0 ≤ 1024
    split at b <;> omega
  · obtain ⟨a, b⟩ := hg i hi
    show gens.getD i 0 ≤ 1023
    rw [if_pos (show taken.getD i false = true from hti)] at b
    exact b

/-- Alike as far as it is told: the things of slots that are free don't count. -/
structure Alike (A B : Tab) : Prop where
  k : A.kind = B.kind
  g : A.gens = B.gens
  t : A.taken = B.taken
  l : A.list.length = B.list.length
  v : ∀ i, i < A.gens.length → A.t i = true → A.v i = B.v i
theorem Alike.refl (A : Tab) : Alike A A := ⟨rfl, rfl, rfl, rfl, fun _ _ _ => rfl⟩

theorem idxs_rank (A : Tab) {i : Nat} (hi : i < A.gens.length) (ht : A.t i = true) : A.idxs[rank A.taken i]? = some i := by
  unfold Tab.idxs Tab.n
  have e : List.range A.gens.length = List.range i ++ i :: (List.range' (i + 1) (A.gens.length - (i + 1))) := by
    have e2 : List.range' 0 (i + ((A.gens.length - (i + 1)) + 1)) = List.range' 0 i ++ List.range' (0 + i) ((A.gens.length - (i + 1)) + 1) := (List.range'_append_1 ..).symm
    rw [List.range_eq_range', List.range_eq_range']
    rw [show i + ((A.gens.length - (i + 1)) + 1) = A.gens.length by omega, List.range'_succ, Nat.zero_add] at e2
    exact e2
  rw [e, List.filter_append, List.filter_cons, if_pos (by simpa using ht)]
  have hr : rank A.taken i = ((List.range i).filter A.t).length := rfl
  rw [hr, List.getElem?_append_right (Nat.le_refl _)]
  simp
theorem idxs_count (A : Tab) : A.idxs.length = rank A.taken A.gens.length := rfl
/-- A table's slots and things told and loaded: the same table. -/
theorem load_all (A : Tab) (h : A.Good) : Alike (Tab.load A.kind A.gens A.taken (A.idxs.map A.v)) A := by
  refine ⟨rfl, rfl, rfl, by simp [Tab.load, fillL_len, h.ll], fun i hi ht => ?_⟩
  have hi' : i < A.gens.length := hi
  have ht' : A.taken.getD i false = true := ht
  show (fillL A.gens.length A.taken (A.idxs.map A.v)).getD i 0 = A.v i
  rw [fillL_at _ _ hi', if_pos ht', List.getD_eq_getElem?_getD, List.getElem?_map, idxs_rank A hi' ht]
  rfl
end Go.Proofs.YtedgchafligndaaGreat
/- Small laws that stage 3's texts lean on, beside those of stage 12; nothing of the program is walked; no condition. -/
namespace Go.Proofs.YtedgchafligndaaGreat
open Go.RowKit

theorem Tryz.info60 : (Tryz.prog.info? 60).map (fun i => (i.zero, i.size, i.bytes)) = some (some (.int .i64 0), 1, 8) := by kernel_rfl
/-- The handles of the slots ahead of k that are taken. -/
def allTo (A : Tab) (k : Nat) : List Int := ((List.range k).filter A.t).map A.hd
theorem allTo_n (A : Tab) : allTo A A.gens.length = A.all := rfl
theorem allTo_0 (A : Tab) : allTo A 0 = [] := rfl
theorem allTo_yes {A : Tab} {k : Nat} (h : A.taken.getD k false = true) : allTo A (k + 1) = allTo A k ++ [A.hd k] := by
  unfold allTo
  rw [List.range_succ, List.filter_append, List.map_append, List.filter_cons, if_pos (show A.t k = true from h)]
  rfl
theorem allTo_no {A : Tab} {k : Nat} (h : A.taken.getD k false = false) : allTo A (k + 1) = allTo A k := by
  unfold allTo
  rw [List.range_succ, List.filter_append, List.map_append, List.filter_cons, if_neg (show ¬ A.t k = true by unfold Tab.t; rw [h]; simp)]
  simp
theorem allTo_len (A : Tab) (k : Nat) : (allTo A k).length ≤ k := by
  unfold allTo
  rw [List.length_map]
  have := List.length_filter_le A.t (List.range k)
  simpa using this
theorem Keeps.setS {S : Nat → Prop} {w w' : World} (h : Keeps S w w') (p : Addr) (u : Value) (hp : S p.block) : Keeps S w (w'.setCell p u) := h.setCell p u (.inl hp)
def getV (A : Tab) (x : Int) : Int := match A.find x with
  | none => 0
  | some i => A.v i
def getN (A : Tab) (x : Int) : Int := match A.find x with
  | none => 20
  | some _ => 0
end Go.Proofs.YtedgchafligndaaGreat
/- The library's slices.Repeat of a slice of the one number 1, from 1 to 4,096 times; no condition but those. -/
namespace Go.Proofs.YtedgchafligndaaGreat
open Go.RowKit

theorem Tryz.size3 : (Tryz.prog.info? 3).map (·.size) = some 1 := by kernel_rfl
theorem Tryz.size4 : (Tryz.prog.info? 4).map (·.size) = some 1 := by kernel_rfl
theorem u64_small (n : Int) (h0 : 0 ≤ n) (h1 : n ≤ 4096) : IntKind.u64.wrap n = n := by rw [IntKind.wrap_u64]; omega
/-- k ones, then noughts. -/
def fillN (n k : Nat) : List Value := List.replicate k (.int .i64 1) ++ List.replicate (n - k) (.int .i64 0)
def onesN (m : Nat) : List Value := List.replicate m (.int .i64 1)
theorem ones_len (m : Nat) : (onesN m).length = m := by simp [onesN]
theorem ones_one (m : Nat) : ∀ u ∈ onesN m, u.oneCell' = true := by
  intro u hu; unfold onesN at hu; rw [List.eq_of_mem_replicate hu]; rfl
theorem fill_len {n k : Nat} (h : k ≤ n) : (fillN n k).length = n := by simp [fillN]; omega
theorem fill_splice {n k m : Nat} (h : k + m ≤ n) : splice (fillN n k) k (onesN m) = fillN n (k + m) := by
  unfold splice fillN onesN
  rw [List.take_left' (by simp), List.length_replicate, List.drop_append, List.drop_eq_nil_of_le (by simp), List.nil_append, List.length_replicate, List.drop_replicate]
  rw [← List.append_assoc, List.replicate_append_replicate]
  congr 2
  omega
theorem fill_start (n : Nat) : splice (List.replicate n (Value.int .i64 0)) 0 [.int .i64 1] = fillN n 1 := by
  unfold splice fillN
  simp
theorem fill_src {W : World} {H n k : Nat} {t : TypeId} (hW : W.heap[H]? = some (.cells (fillN n k).toArray t (0, 0))) (m : Nat) (hm : m ≤ k) : ∀ j v, (onesN m)[j]? = some v → W.cell? ((⟨H, 0, none⟩ : Addr).add j) = some v := by
  intro j v hj
  have hlt : j < m := by
    rcases Nat.lt_or_ge j m with h | h
    · exact h
    · rw [List.getElem?_eq_none (by rw [ones_len]; exact h)] at hj; cases hj
  have hv : v = .int .i64 1 := by
    unfold onesN at hj
    rw [List.getElem?_replicate, if_pos hlt] at hj
    exact (Option.some.inj hj).symm
  rw [addr_add, hv, cell_of_row W H _ _ t (0, 0) hW]
  simp [fillN, List.getElem?_append, Nat.lt_of_lt_of_le hlt hm]

set_option maxHeartbeats 2000000 in
set_option maxRecDepth 100000 in
theorem repeat_ones (w : World) (g c : Nat) (hg : w.cell? ⟨g, 0, none⟩ = some (.int .i64 1)) (n : Nat) (h1 : 1 ≤ n) (h2 : n ≤ 4096) :
    Calls Tryz.prog 74 #[.slice (some ⟨g, 0, none⟩) 1 c, .int .i64 n] w fun e w' => ∃ r, e = .returned (.slice (some ⟨r, 0, none⟩) n n) ∧ w'.ownsRow w.heap.size 3 1 (.slice (some ⟨r, 0, none⟩) n n) n (ints (List.replicate n 1)) ∧ Below w.heap.size w w' := by
  have hmk := fun w => run_make_row' (P := Tryz.prog) 22 3 (.int .i64 0) 8 Tryz.underlying22 Tryz.info3 rfl .i64 .i64 n (by omega) (by omega) w
  have hu := u64_small n (by omega) (by omega)
  have HM := Lib.hid (fun w => mul_one n w (by omega) (by omega))
  have z0 : (0 : Int) ≤ (n : Int) := by omega
  go_enter Tryz.func74, Tryz.ntmps74
  go_wp2_with fail

  refine (HM.out _).mono ?_
  rintro e w1 ⟨rfl, rfl⟩
  go_wp2_with (with_reducible refine wpList_copy_splice rfl (.tmp 31) (.tmp 32) 22 22 rfl 3 Tryz.underlying22 Tryz.size3 _ _ n n 1 c rfl rfl w.heap.size 0 (List.replicate n (.int .i64 0)) 3 ?c1 [.int .i64 1] ?c2 ?c3 ?c4 ?c5 w.heap.size w ?c6 (Nat.le_refl _) ?_)
  case c1 => rw [heap_alloc_new, ← toList_madeCells_one]
  case c2 => simp [Nat.min_eq_left h1]
  case c3 =>
    intro j v hj
    match j, hj with
    | 0, hj =>
      simp at hj
      subst hj
      exact (World.cell?_alloc_lt _ _ ⟨g, 0, none⟩ (cell_lt hg)).trans hg
  case c4 => simp; omega
  case c5 => intro u hu; simp at hu; subst hu; rfl
  case c6 => exact (Below.refl _ _).alloc (Nat.le_refl _) _
  intro w1 hw1 hb1
  go_wp2_with fail
  go_loopw [8] (fun i wr => ∃ k : Nat, 1 ≤ k ∧ k ≤ n ∧ i = .int .i64 k ∧ Hid (wr.heap[w.heap.size]? = some (.cells (fillN n k).toArray 3 (0, 0))) ∧ Below w.heap.size w wr) (fun i _ => n - (intOf i).toNat)
  case atStart => exact ⟨1, Nat.le_refl _, h1, rfl, Lib.hid (by rw [← fill_start]; exact hw1.out), hb1⟩
  case round =>
    obtain ⟨k, hk1, hk, rfl, HB, hb⟩ := hrel
    by_cases hlt : k < n
    · have k0 : (0 : Int) ≤ (k : Int) := by omega
      have k1 : (k : Int) ≤ (n : Int) := by omega
      have hne : ¬ n = k := by omega
      have HL := Lib.hid (show (onesN (Nat.min k (n - k))).length = Nat.min k (n - k) from ones_len _)
      have HF := Lib.hid (show k + (onesN (Nat.min k (n - k))).length ≤ (fillN n k).length by rw [fill_len hk, ones_len]; have : Nat.min k (n - k) ≤ n - k := Nat.min_le_right _ _; omega)
      have hmin : k + Nat.min k (n - k) ≤ n := by have : Nat.min k (n - k) ≤ n - k := Nat.min_le_right _ _; omega
      have hmin2 : 1 ≤ Nat.min k (n - k) := Nat.le_min.2 ⟨by omega, by omega⟩
      have HS := Lib.hid (fun (W : World) h => fill_src (W := W) (H := w.heap.size) (n := n) (k := k) (t := 3) h (Nat.min k (n - k)) (Nat.min_le_left _ _))
      have HP := Lib.hid (fill_splice hmin)
      go_wp2_with fail
      go_region_held3 (fun _ => True) (trivial) ((refine step_copy_splice (by rfl) (.tmp 41) (.tmp 44) 22 22 (by rfl) 3 Tryz.underlying22 Tryz.size3 _ _ _ _ _ _ (by rfl) (by rfl) w.heap.size k (fillN n k) 3 HB.out (onesN (Nat.min k (n - k))) HL.out (fun _ => ⟨rfl, _, rfl, HS.out _ HB.out⟩) HF.out (ones_one _) w.heap.size w (hb.trans ⟨rfl, rfl, rfl, Nat.le_refl _, fun _ _ => rfl⟩) (Nat.le_refl _) ?_; intro w4 hg4 hb4))
      go_wp2_with fail
      have hsum : Value.int .i64 (IntKind.i64.wrap ((k : Int) + ((onesN (Nat.min k (n - k))).length : Int))) = .int .i64 ((k + Nat.min k (n - k) : Nat) : Int) := by
        rw [HL.out, IntWalk.i64_in _ (by omega)]
        rfl
      have hblk : Hid (w4.heap[w.heap.size]? = some (.cells (fillN n (k + Nat.min k (n - k))).toArray 3 (0, 0))) := Lib.hid (by rw [← HP.out]; exact hg4.out)
      go_roundw
      case rel => exact ⟨k + Nat.min k (n - k), by omega, hmin, hsum, hblk, hb4⟩
      case measure => rw [hsum]; simp [intOf]; omega
    · have hkn : k = n := by omega
      have HE := Lib.hid (show fillN n k = ints (List.replicate n 1) by rw [hkn]; simp [fillN, ints])
      clear hkn
      go_wp2_with fail
      go_ret
      refine ⟨w.heap.size, rfl, ⟨by simp [ints_len], .inr ⟨w.heap.size, n, (ints (List.replicate n 1)).toArray, rfl, Nat.le_refl _, by rw [← HE.out]; exact HB.out, Nat.le_refl _, by unfold maxLen; omega, by simp [ints_len], ?_⟩⟩, hb⟩
      rw [List.toList_toArray, List.take_of_length_le (by simp [ints_len])]
end Go.Proofs.YtedgchafligndaaGreat
/- The document's own table of slots, function by function: Kind, Make, Free, Find; no condition but those that each row names. -/
namespace Go.Proofs.YtedgchafligndaaGreat
open Go.RowKit

/-- The document's table as it lies in memory. -/
structure RT (S : Nat → Prop) (w : World) (A : Tab) (gs ts ls : Value) : Prop where
  g : Lst S w gs (ints A.gens)
  t : Lst S w ts (bools A.taken)
  l : Lst S w ls (ints A.list)
theorem RT.keeps {S : Nat → Prop} {w w' : World} {A : Tab} {gs ts ls : Value} (h : RT S w A gs ts ls) (hk : Keeps S w w') : RT S w' A gs ts ls := ⟨h.g.keeps hk, h.t.keeps hk, h.l.keeps hk⟩
theorem RT.below {S : Nat → Prop} {w w' : World} {A : Tab} {gs ts ls : Value} (h : RT S w A gs ts ls) (hb : Below w.heap.size w w') : RT S w' A gs ts ls := h.keeps (Keeps.of_below hb)
abbrev rv (k : Int) (gs ts ls : Value) : Value := .agg #[.int .i64 k, gs, ts, ls]

/-- A slot's number, -1 where there is none. -/
def optV (o : Option Nat) : Int := match o with
  | none => -1
  | some i => i

end Go.Proofs.YtedgchafligndaaGreat
/- The document's own Copy of a table: three rows of its own; no condition but those that each row names. -/
namespace Go.Proofs.YtedgchafligndaaGreat
open Go.RowKit

/-- Three rows of the call's own, none the other. -/
structure Own3 (B : Nat) (w : World) (A : Tab) (g1 c1 g2 c2 g3 c3 : Nat) : Prop where
  g : w.ownsRow B 3 1 (.slice (some ⟨g1, 0, none⟩) A.gens.length c1) A.gens.length (ints A.gens)
  t : w.ownsRow B 4 1 (.slice (some ⟨g2, 0, none⟩) A.taken.length c2) A.taken.length (bools A.taken)
  l : w.ownsRow B 3 1 (.slice (some ⟨g3, 0, none⟩) A.list.length c3) A.list.length (ints A.list)
  n12 : g1 ≠ g2
  n13 : g1 ≠ g3
  n23 : g2 ≠ g3

/-- What Copy answers. -/
def CopyPost (w : World) (A : Tab) (e : Ending) (w' : World) : Prop :=
  ∃ g1 c1 g2 c2 g3 c3, e = .returned (rv A.kind (.slice (some ⟨g1, 0, none⟩) A.gens.length c1) (.slice (some ⟨g2, 0, none⟩) A.taken.length c2) (.slice (some ⟨g3, 0, none⟩) A.list.length c3)) ∧ Own3 w.heap.size w' A g1 c1 g2 c2 g3 c3 ∧ Below w.heap.size w w'

end Go.Proofs.YtedgchafligndaaGreat
