/- Plain mathematics for stage 1: the decimal digits of units, nothing of the program; no condition. -/
import Derived.Laws.AppendOwn
import Derived.Laws.OwnMore
import Derived.Below
namespace Go.Proofs.YtokplbfjpabolaaDoor
open Go.RowKit

/-- A digit's byte. -/
def dgB (n : Nat) : UInt8 := UInt8.ofNat (48 + n)
theorem dgB_toNat (n : Nat) (h : n ≤ 9) : (dgB n).toNat = 48 + n := by unfold dgB; rw [UInt8.toNat_ofNat']; exact Nat.mod_eq_of_lt (by omega)

/-- The digits of r parts of 2^20, as long division gives them, f at most. -/
def tailD : Nat → Nat → List UInt8
  | 0, _ => []
  | f + 1, r => if r = 0 then [] else dgB (r * 10 / 1048576) :: tailD f (r * 10 % 1048576)

theorem tailD_zero (f : Nat) : tailD f 0 = [] := by cases f <;> simp [tailD]
theorem tailD_pos (f r : Nat) (h : 0 < r) : tailD (f + 1) r = dgB (r * 10 / 1048576) :: tailD f (r * 10 % 1048576) := by
  rw [tailD, if_neg (by omega)]

/-- Behind f digits the rest is 0. -/
def Dv (f r : Nat) : Prop := r * 2 ^ f % 1048576 = 0
theorem Dv_start (r : Nat) : Dv 20 r := by unfold Dv; exact Nat.mul_mod_left r 1048576
theorem Dv_zero {r : Nat} (h : Dv 0 r) (hr : r < 1048576) : r = 0 := by unfold Dv at h; rw [Nat.pow_zero, Nat.mul_one] at h; omega
theorem Dv_step {f r : Nat} (h : Dv (f + 1) r) : Dv f (r * 10 % 1048576) := by
  unfold Dv at *
  rw [Nat.mod_mul_mod]
  have e : r * 10 * 2 ^ f = (r * 2 ^ (f + 1)) * 5 := by
    rw [Nat.pow_succ]
    generalize 2 ^ f = x
    rw [Nat.mul_assoc, Nat.mul_assoc]
    congr 1
    omega
  rw [e, Nat.mul_mod, h]

/-- The text of units. -/
def decL (u : Nat) : List UInt8 := dgB (u / 1048576) :: (if u % 1048576 = 0 then [] else 46 :: tailD 20 (u % 1048576))

def bcells (l : List UInt8) : List Value := l.map fun b => .int .u8 (b.toNat : Int)
theorem bcells_snoc (l : List UInt8) (n : Nat) (h : n ≤ 9) : bcells l ++ [.int .u8 (48 + (n : Int))] = bcells (l ++ [dgB n]) := by
  unfold bcells
  rw [List.map_append]
  congr 1
  simp only [List.map_cons, List.map_nil, dgB_toNat n h]
  congr 2

/-- v is a slice of the call's own that holds the bytes xs. -/
def OwnB (E base : Nat) (w : World) (v : Value) (xs : List UInt8) : Prop := w.ownsRow base E 1 v xs.length (bcells xs)

theorem ownB_shape {E base : Nat} {w : World} {v : Value} {xs : List UInt8} (h : OwnB E base w v xs) (hx : 0 < xs.length) :
    ∃ g cap, v = .slice (some ⟨g, 0, none⟩) xs.length cap := by
  obtain ⟨h1, h2⟩ := h
  rcases h2 with ⟨_, h2⟩ | ⟨g, cap, cur, hv, _⟩
  · omega
  · exact ⟨g, cap, hv⟩

theorem ownB_cells {E base : Nat} {w : World} {g cap : Nat} {xs : List UInt8} (h : OwnB E base w (.slice (some ⟨g, 0, none⟩) xs.length cap) xs) :
    ∀ j (hj : j < xs.length), w.cell? ((⟨g, 0, none⟩ : Addr).add j) = some (.int .u8 (xs[j].toNat : Int)) := by
  intro j hj
  have := World.ownsRow.cells h rfl j (.int .u8 (xs[j].toNat : Int)) (by unfold bcells; simp [hj])
  exact this

theorem ownB_lit {E base : Nat} (w : World) (n : Nat) (h : n ≤ 9) (hb : base ≤ w.heap.size) :
    OwnB E base (w.alloc (.cells #[.int .u8 (48 + (n : Int))] E)) (.slice (some ⟨w.heap.size, 0, none⟩) 1 1) [dgB n] := by
  have := World.ownsRow_lit (base := base) (e := E) (size := 1) w #[.int .u8 (48 + (n : Int))] 1 hb (by unfold maxLen; omega) rfl
  unfold OwnB
  have e := bcells_snoc [] n h
  simp only [List.nil_append] at e
  rw [← e]
  exact this

theorem ownB_next {E base : Nat} {w : World} {v : Value} {xs : List UInt8} {m : Nat} (n : Nat) (hn : n ≤ 9) (hm : m = 1)
    (h : w.ownsRow base E 1 v (xs.length + m) (bcells xs ++ [.int .u8 (48 + (n : Int))])) : OwnB E base w v (xs ++ [dgB n]) := by
  subst hm
  unfold OwnB
  rw [← bcells_snoc xs n hn, List.length_append]
  exact h
theorem ownB_dot {E base : Nat} {w : World} {v : Value} {xs : List UInt8}
    (h : w.ownsRow base E 1 v (xs.length + 1) (bcells xs ++ [.int .u8 46])) : OwnB E base w v (xs ++ [46]) := by
  unfold OwnB
  rw [List.length_append, show bcells (xs ++ [46]) = bcells xs ++ [.int .u8 46] by unfold bcells; rw [List.map_append]; rfl]
  exact h
end Go.Proofs.YtokplbfjpabolaaDoor
