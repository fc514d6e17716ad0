/- Claims by their slots, as functions and as lists; their cells; what they count for; plain mathematics; nothing of the program; no condition but those that each row names. -/
import Derived.Test.YtilbohjkkdkdiaaFRow
namespace Go.Proofs.Ytilbohjkkdkdiaa
open Go.RowKit

/-- A claim: its slot, its share, the one to come, whether it dies. -/
structure Cl where
  s : Int
  n : Int
  x : Int
  d : Bool
def zc : Cl := ⟨0, 0, 0, false⟩
/-- What it counts for. -/
def cnt (c : Cl) : Int := max c.n c.x
/-- The cells of claims. -/
def cells4 : List Cl → List Value
  | [] => []
  | c :: r => .int .i64 c.s :: .int .i64 c.n :: .int .i64 c.x :: .bool c.d :: cells4 r
theorem cells4_append (a b : List Cl) : cells4 (a ++ b) = cells4 a ++ cells4 b := by
  induction a with
  | nil => rfl
  | cons e r ih => simp [cells4, ih]
theorem cells4_len : ∀ l : List Cl, (cells4 l).length = l.length * 4
  | [] => rfl
  | e :: r => by simp [cells4, cells4_len r]; omega
theorem cells4_take : ∀ (l : List Cl) (m : Nat), (cells4 l).take (m * 4) = cells4 (l.take m)
  | [], m => by simp [cells4]
  | e :: r, 0 => by simp [cells4]
  | e :: r, m + 1 => by
    have ih := cells4_take r m
    simp only [cells4, List.take_succ_cons, show (m + 1) * 4 = m * 4 + 1 + 1 + 1 + 1 from by omega, ih]
theorem cells4_drop : ∀ (l : List Cl) (m : Nat), (cells4 l).drop (m * 4) = cells4 (l.drop m)
  | [], m => by simp [cells4]
  | e :: r, 0 => by simp [cells4]
  | e :: r, m + 1 => by
    have ih := cells4_drop r m
    simp only [cells4, List.drop_succ_cons, show (m + 1) * 4 = m * 4 + 1 + 1 + 1 + 1 from by omega, ih]
theorem cells4_at : ∀ (l : List Cl) (i : Nat) (h : i < l.length), (cells4 l)[i * 4]? = some (.int .i64 l[i].s) ∧ (cells4 l)[i * 4 + 1]? = some (.int .i64 l[i].n) ∧ (cells4 l)[i * 4 + 2]? = some (.int .i64 l[i].x) ∧ (cells4 l)[i * 4 + 3]? = some (.bool l[i].d)
  | e :: r, 0, _ => by simp [cells4]
  | e :: r, i + 1, h => by
    have ih := cells4_at r i (by simpa using h)
    simp only [cells4, show (i + 1) * 4 = i * 4 + 1 + 1 + 1 + 1 from by omega, show i * 4 + 1 + 1 + 1 + 1 + 1 = i * 4 + 1 + 1 + 1 + 1 + 1 from rfl, show i * 4 + 1 + 1 + 1 + 1 + 2 = i * 4 + 2 + 1 + 1 + 1 + 1 from by omega, show i * 4 + 1 + 1 + 1 + 1 + 3 = i * 4 + 3 + 1 + 1 + 1 + 1 from by omega, List.getElem?_cons_succ, List.getElem_cons_succ]
    exact ih
theorem cells4_set : ∀ (l : List Cl) (i : Nat) (c : Cl), cells4 (l.set i c) = ((((cells4 l).set (i * 4) (.int .i64 c.s)).set (i * 4 + 1) (.int .i64 c.n)).set (i * 4 + 2) (.int .i64 c.x)).set (i * 4 + 3) (.bool c.d)
  | [], i, e => by simp [cells4]
  | x :: r, 0, e => by simp [cells4]
  | x :: r, i + 1, e => by
    have ih := cells4_set r i e
    simp only [List.set_cons_succ, cells4, ih, show (i + 1) * 4 = i * 4 + 1 + 1 + 1 + 1 from by omega, show i * 4 + 1 + 1 + 1 + 1 + 2 = i * 4 + 2 + 1 + 1 + 1 + 1 from by omega, show i * 4 + 1 + 1 + 1 + 1 + 3 = i * 4 + 3 + 1 + 1 + 1 + 1 from by omega]
theorem cells4_one : ∀ (l : List Cl), ∀ u ∈ cells4 l, u.oneCell' = true
  | [], u, hu => by simp [cells4] at hu
  | e :: r, u, hu => by
    simp only [cells4, List.mem_cons] at hu
    rcases hu with rfl | rfl | rfl | rfl | hu
    · rfl
    · rfl
    · rfl
    · rfl
    · exact cells4_one r u hu

/-- The 64 claims of a book, as a list. -/
def fl (f : Nat → Cl) : List Cl := (List.range 64).map f
theorem fl_len (f : Nat → Cl) : (fl f).length = 64 := by simp [fl]
theorem fl_get (f : Nat → Cl) (i : Nat) (h : i < (fl f).length) : (fl f)[i] = f i := by simp [fl]
def upd (f : Nat → Cl) (i : Nat) (c : Cl) : Nat → Cl := fun j => if j = i then c else f j
theorem upd_same (f : Nat → Cl) (i : Nat) (c : Cl) : upd f i c i = c := by simp [upd]
theorem upd_other (f : Nat → Cl) (i j : Nat) (c : Cl) (h : j ≠ i) : upd f i c j = f j := by simp [upd, h]
theorem fl_upd (f : Nat → Cl) (i : Nat) (c : Cl) : fl (upd f i c) = (fl f).set i c := by
  apply List.ext_getElem
  · simp [fl]
  · intro j h1 h2
    rw [List.getElem_set]
    by_cases e : i = j
    · subst e; simp [fl, upd]
    · rw [if_neg e]; simp [fl, upd, Ne.symm e]
/-- The cells of a book. -/
def arr (f : Nat → Cl) : Array Value := (cells4 (fl f)).toArray
theorem arr_size (f : Nat → Cl) : (arr f).size = 256 := by simp [arr, cells4_len, fl_len]
theorem arr_one (f : Nat → Cl) : (arr f).all (·.oneCell') = true := by
  rw [Array.all_eq_true_iff_forall_mem]
  intro u hu
  exact cells4_one (fl f) u (by simpa [arr] using hu)
theorem arr_at (f : Nat → Cl) (i : Nat) (h : i < 64) : (arr f)[i * 4]? = some (.int .i64 (f i).s) ∧ (arr f)[i * 4 + 1]? = some (.int .i64 (f i).n) ∧ (arr f)[i * 4 + 2]? = some (.int .i64 (f i).x) ∧ (arr f)[i * 4 + 3]? = some (.bool (f i).d) := by
  have := cells4_at (fl f) i (by rw [fl_len]; exact h)
  rw [fl_get] at this
  simpa [arr] using this
theorem arr_part (f : Nat → Cl) (i : Nat) (h : i < 64) : (arr f).extract (i * 4) (i * 4 + 4) = #[.int .i64 (f i).s, .int .i64 (f i).n, .int .i64 (f i).x, .bool (f i).d] := by
  obtain ⟨h0, h1, h2, h3⟩ := arr_at f i h
  have hs := arr_size f
  apply Array.ext_getElem?
  intro k
  rw [Array.getElem?_extract]
  rcases Nat.lt_or_ge k 4 with hk | hk
  · rw [if_pos (by rw [hs]; omega)]
    match k, hk with
    | 0, _ => simpa using h0
    | 1, _ => simpa using h1
    | 2, _ => simpa using h2
    | 3, _ => simpa using h3
  · rw [if_neg (by rw [hs]; omega)]
    exact (Array.getElem?_eq_none (by simpa using hk)).symm

/-- What the first k count for. -/
def sumTo (f : Nat → Cl) : Nat → Int
  | 0 => 0
  | k + 1 => sumTo f k + cnt (f k)
theorem sumTo_congr {f g : Nat → Cl} : ∀ k, (∀ i, i < k → f i = g i) → sumTo f k = sumTo g k
  | 0, _ => rfl
  | k + 1, h => by simp only [sumTo]; rw [sumTo_congr k (fun i hi => h i (by omega)), h k (by omega)]
theorem sumTo_upd (f : Nat → Cl) (i : Nat) (c : Cl) : ∀ k, i < k → sumTo (upd f i c) k = sumTo f k - cnt (f i) + cnt c
  | 0, h => by omega
  | k + 1, h => by
    simp only [sumTo]
    by_cases e : i = k
    · subst e
      rw [sumTo_congr (f := upd f i c) (g := f) i (fun j hj => upd_other f i j c (by omega)), upd_same]; omega
    · rw [sumTo_upd f i c k (by omega), upd_other f i k c (Ne.symm e)]; omega
/-- Each counts for something between nothing and the whole. -/
def Small (f : Nat → Cl) : Prop := ∀ i, i < 64 → 0 ≤ cnt (f i) ∧ cnt (f i) ≤ 1048576
theorem Small.upd {f : Nat → Cl} (h : Small f) (i : Nat) (c : Cl) (h0 : 0 ≤ cnt c) (h1 : cnt c ≤ 1048576) : Small (upd f i c) := by
  intro j hj
  by_cases e : j = i
  · subst e; rw [upd_same]; exact ⟨h0, h1⟩
  · rw [upd_other _ _ _ _ e]; exact h j hj
theorem sumTo_small {f : Nat → Cl} (h : Small f) : ∀ k, k ≤ 64 → 0 ≤ sumTo f k ∧ sumTo f k ≤ (k : Int) * 1048576
  | 0, _ => ⟨Int.le_refl _, by simp [sumTo]⟩
  | k + 1, hk => by
    have a := sumTo_small h k (by omega)
    have b := h k (by omega)
    simp only [sumTo]
    omega
theorem sumTo_part {f : Nat → Cl} (h : Small f) (i : Nat) : ∀ k, k ≤ 64 → i < k → cnt (f i) ≤ sumTo f k
  | 0, _, h => by omega
  | k + 1, hk, hi => by
    have b := h k (by omega)
    simp only [sumTo]
    by_cases e : i = k
    · subst e; have := sumTo_small h i (by omega); omega
    · have := sumTo_part h i k (by omega) (by omega); omega

/-- The claims that are there, of k slots from a on. -/
def one (c : Cl) : List Cl := if 1 ≤ c.n then [c] else []
def lst (f : Nat → Cl) (a : Nat) : Nat → List Cl
  | 0 => []
  | k + 1 => lst f a k ++ one (f (a + k))
theorem one_len (c : Cl) : (one c).length ≤ 1 := by unfold one; split <;> simp
theorem lst_len (f : Nat → Cl) (a : Nat) : ∀ k, (lst f a k).length ≤ k
  | 0 => by simp [lst]
  | k + 1 => by have := lst_len f a k; have := one_len (f (a + k)); simp only [lst, List.length_append]; omega
theorem lst_add (f : Nat → Cl) (a j : Nat) : ∀ k, lst f a (j + k) = lst f a j ++ lst f (a + j) k
  | 0 => by simp [lst]
  | k + 1 => by rw [← Nat.add_assoc, lst, lst_add f a j k, lst, List.append_assoc, Nat.add_assoc]
theorem lst_congr {f g : Nat → Cl} (a : Nat) : ∀ k, (∀ i, a ≤ i → i < a + k → f i = g i) → lst f a k = lst g a k
  | 0, _ => rfl
  | k + 1, h => by simp only [lst]; rw [lst_congr a k (fun i h1 h2 => h i h1 (by omega)), h (a + k) (by omega) (by omega)]
theorem lst_mem {f : Nat → Cl} (a : Nat) : ∀ k {c : Cl}, c ∈ lst f a k → ∃ i, a ≤ i ∧ i < a + k ∧ c = f i ∧ 1 ≤ (f i).n
  | 0, c, h => by simp [lst] at h
  | k + 1, c, h => by
    simp only [lst, List.mem_append] at h
    rcases h with h | h
    · obtain ⟨i, h1, h2, h3⟩ := lst_mem a k h
      exact ⟨i, h1, by omega, h3⟩
    · unfold one at h
      split at h
      · simp at h; exact ⟨a + k, by omega, by omega, h, by assumption⟩
      · simp at h
theorem lst_split (f : Nat → Cl) (i : Nat) (h : i < 64) : lst f 0 64 = lst f 0 i ++ (one (f i) ++ lst f (i + 1) (63 - i)) := by
  have e1 : (64 : Nat) = i + (1 + (63 - i)) := by omega
  rw [e1, lst_add, lst_add, Nat.zero_add]
  simp only [lst, List.nil_append, Nat.add_zero]
theorem lst_upd (f : Nat → Cl) (i : Nat) (c : Cl) (h : i < 64) : lst (upd f i c) 0 64 = lst f 0 i ++ (one c ++ lst f (i + 1) (63 - i)) := by
  rw [lst_split _ i h, upd_same, lst_congr (f := upd f i c) (g := f) 0 i (fun j _ hj => upd_other f i j c (by omega)), lst_congr (f := upd f i c) (g := f) (i + 1) (63 - i) (fun j hj _ => upd_other f i j c (by omega))]
def lsum : List Cl → Int
  | [] => 0
  | c :: r => cnt c + lsum r
theorem lsum_append (a b : List Cl) : lsum (a ++ b) = lsum a + lsum b := by
  induction a with
  | nil => simp [lsum]
  | cons c r ih => simp only [List.cons_append, lsum, ih]; omega

/-- A book as it may be. -/
structure Good (f : Nat → Cl) : Prop where
  each : ∀ i, i < 64 → f i = zc ∨ ((f i).s = i ∧ 1 ≤ (f i).n ∧ (f i).n ≤ 1048576 ∧ 0 ≤ (f i).x ∧ (f i).x ≤ 1048576)
  sum : sumTo f 64 ≤ 1048576
theorem cnt_zc : cnt zc = 0 := rfl
theorem cnt_in {c : Cl} (h1 : 1 ≤ c.n) (h2 : c.n ≤ 1048576) (h3 : 0 ≤ c.x) (h4 : c.x ≤ 1048576) : 0 ≤ cnt c ∧ cnt c ≤ 1048576 := by unfold cnt; omega
theorem small_of {f : Nat → Cl} (h : ∀ i, i < 64 → f i = zc ∨ ((f i).s = i ∧ 1 ≤ (f i).n ∧ (f i).n ≤ 1048576 ∧ 0 ≤ (f i).x ∧ (f i).x ≤ 1048576)) : Small f := by
  intro i hi
  rcases h i hi with e | ⟨_, h1, h2, h3, h4⟩
  · rw [e, cnt_zc]; omega
  · exact cnt_in h1 h2 h3 h4
theorem Good.small {f : Nat → Cl} (h : Good f) : Small f := small_of h.each
theorem Good.pos {f : Nat → Cl} (h : Good f) : 0 ≤ sumTo f 64 := (sumTo_small h.small 64 (by omega)).1
theorem Good.there {f : Nat → Cl} (h : Good f) {i : Nat} (hi : i < 64) (hn : 1 ≤ (f i).n) : (f i).s = i ∧ (f i).n ≤ 1048576 ∧ 0 ≤ (f i).x ∧ (f i).x ≤ 1048576 := by
  rcases h.each i hi with e | ⟨h1, h2, h3⟩
  · rw [e] at hn; simp [zc] at hn
  · exact ⟨h1, h3⟩
theorem Good.gone {f : Nat → Cl} (h : Good f) {i : Nat} (hi : i < 64) (hn : ¬ 1 ≤ (f i).n) : f i = zc := by
  rcases h.each i hi with e | ⟨_, h2, _⟩
  · exact e
  · exact absurd h2 hn
theorem Good.upd {f : Nat → Cl} (h : Good f) {i : Nat} (hi : i < 64) {c : Cl} (hc : c = zc ∨ (c.s = i ∧ 1 ≤ c.n ∧ c.n ≤ 1048576 ∧ 0 ≤ c.x ∧ c.x ≤ 1048576)) (hs : sumTo f 64 - cnt (f i) + cnt c ≤ 1048576) : Good (upd f i c) := by
  refine ⟨fun j hj => ?_, by rw [sumTo_upd f i c 64 hi]; exact hs⟩
  by_cases e : j = i
  · subst e; rw [upd_same]; exact hc
  · rw [upd_other _ _ _ _ e]; exact h.each j hj
theorem Good.below {f : Nat → Cl} (h : Good f) {i : Nat} (hi : i ≤ 64) : ∀ c ∈ lst f 0 i, c.s < i ∧ 0 ≤ c.s := by
  intro c hc
  obtain ⟨j, _, hj, rfl, hn⟩ := lst_mem 0 i hc
  have := (h.there (i := j) (by omega) hn).1
  omega
theorem Good.above {f : Nat → Cl} (h : Good f) {i k : Nat} (hk : i + 1 + k ≤ 64) : ∀ c ∈ lst f (i + 1) k, (i : Int) < c.s := by
  intro c hc
  obtain ⟨j, hj1, hj, rfl, hn⟩ := lst_mem (i + 1) k hc
  have := (h.there (i := j) (by omega) hn).1
  omega
theorem Good.lsum {f : Nat → Cl} (h : Good f) : ∀ k, k ≤ 64 → lsum (lst f 0 k) = sumTo f k
  | 0, _ => rfl
  | k + 1, hk => by
    simp only [lst, sumTo, lsum_append, h.lsum k (by omega), Nat.zero_add]
    by_cases hn : 1 ≤ (f k).n
    · simp only [one, if_pos hn, Go.Proofs.Ytilbohjkkdkdiaa.lsum]; omega
    · rw [h.gone (by omega) hn]; simp only [one, zc]; simp [Go.Proofs.Ytilbohjkkdkdiaa.lsum, cnt]
theorem good_none : Good (fun _ => zc) := by
  refine ⟨fun _ _ => .inl rfl, ?_⟩
  have : ∀ k, sumTo (fun _ => zc) k = 0 := fun k => by
    induction k with
    | zero => rfl
    | succ k ih => simp only [sumTo, ih, cnt_zc]; rfl
  rw [this]; omega
theorem lst_new : ∀ (a k : Nat), lst (fun _ => zc) a k = []
  | _, 0 => rfl
  | a, k + 1 => by simp only [lst, lst_new a k]; rfl
/-- The claim at a place of what is there. -/
theorem lst_each {f : Nat → Cl} (h : Good f) {c : Cl} (hc : c ∈ lst f 0 64) : 0 ≤ cnt c ∧ cnt c ≤ 1048576 := by
  obtain ⟨j, _, hj, rfl, _⟩ := lst_mem 0 64 hc
  exact h.small j (by omega)
/-- Is a claim at that slot? -/
def there (f : Nat → Cl) (s : Int) : Prop := 0 ≤ s ∧ s < 64 ∧ 1 ≤ (f s.toNat).n
theorem there_nat {f : Nat → Cl} {k : Nat} (hk : k < 64) : there f (k : Int) ↔ 1 ≤ (f k).n := by unfold there; simp; omega
/-- The claim that is there, in its parts. -/
theorem there_parts {f : Nat → Cl} (hG : Good f) {s : Int} (h : there f s) : ∃ (k : Nat) (n x : Int) (d : Bool), s = k ∧ k < 64 ∧ f k = ⟨k, n, x, d⟩ ∧ 1 ≤ n ∧ n ≤ 1048576 ∧ 0 ≤ x ∧ x ≤ 1048576 := by
  obtain ⟨h0, h1, h2⟩ := h
  obtain ⟨k, rfl⟩ : ∃ k : Nat, s = k := ⟨s.toNat, by omega⟩
  rw [Int.toNat_natCast] at h2
  have hk : k < 64 := by omega
  obtain ⟨g1, g2, g3, g4⟩ := hG.there hk h2
  cases hf : f k with
  | mk a n x d =>
    rw [hf] at g1 g2 g3 g4 h2
    simp only at g1 g2 g3 g4 h2
    subst g1
    exact ⟨k, n, x, d, rfl, hk, hf, h2, g2, g3, g4⟩
instance (f : Nat → Cl) (s : Int) : Decidable (there f s) := inferInstanceAs (Decidable (_ ∧ _ ∧ _))
end Go.Proofs.Ytilbohjkkdkdiaa
