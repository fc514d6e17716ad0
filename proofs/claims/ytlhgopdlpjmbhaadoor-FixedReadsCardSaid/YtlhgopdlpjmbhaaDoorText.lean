/- The program's fixed.decimal and fixed.Text: the text of units from 0 to 2^20, byte by byte; and what a statement's own 'sure' asks is so. -/
import Derived.Test.YtlhgopdlpjmbhaaDoorFx
import Derived.Test.YtlhgopdlpjmbhaaDoorMath
import Derived.Deep.LoopGhost
import Derived.Maps.AppendAt
import Derived.Laws.IdiomStrings
namespace Go.Proofs.YtlhgopdlpjmbhaaDoor
open Go.RowKit

theorem Tryd.info5 : (Tryd.prog.info? 5).map (fun i => (i.zero, i.size, i.bytes)) = some (some (.int .u8 0), 1, 1) := by kernel_rfl

theorem dg_bd (r : Nat) (h : r < 1048576) : r * 10 / 1048576 ≤ 9 := by omega
theorem md_bd (r : Nat) : r * 10 % 1048576 < 1048576 := Nat.mod_lt _ (by omega)
theorem below_own {E base : Nat} {w W W' : World} {v : Value} {xs : List UInt8} (hb : Below base w W) (hown : OwnB E base W v xs) (hg : W.grownBy W' v.ownBlock) (hB : base ≤ W.heap.size) : Below base w W' :=
  hb.grown hg hB fun k hk => (hown.lt k hk).1

set_option maxHeartbeats 1000000 in
set_option maxRecDepth 100000 in
theorem decimal_any (u : Nat) (w : World) (hu : u ≤ 1048576) :
    Calls Tryd.prog 32 #[.int .i64 u] w fun e w' => e = .returned (.string ⟨(decL u).toArray⟩) ∧ Below w.heap.size w w' := by
  obtain ⟨i0, hi, hz0, hz1, hz2⟩ := info_parts Tryd.info5
  have hq : u / 1048576 ≤ 9 := by omega
  have hl := ownB_lit (E := 5) (base := w.heap.size) w (u / 1048576) hq (Nat.le_refl _)
  have hb1 : Below w.heap.size w (w.alloc (.cells #[.int .u8 (48 + ((u / 1048576 : Nat) : Int))] 5)) := (Below.refl _ _).alloc (Nat.le_refl _) _
  by_cases h0 : u % 1048576 = 0
  · have hc : (convert 77 9 (.slice (some ⟨w.heap.size, 0, none⟩) 1 1)).run Tryd.prog (w.alloc (.cells #[.int .u8 (48 + ((u / 1048576 : Nat) : Int))] 5)) = .ok (.string ⟨[dgB (u / 1048576)].toArray⟩) (w.alloc (.cells #[.int .u8 (48 + ((u / 1048576 : Nat) : Int))] 5)) :=
      run_convert_bytes_back (P := Tryd.prog) (w.alloc (.cells #[.int .u8 (48 + ((u / 1048576 : Nat) : Int))] 5)) 77 9 5 ⟨w.heap.size, 0, none⟩ 1 _ Tryd.underlying77 Tryd.underlying5 Tryd.underlying9 (ownB_cells hl)
    rw [show ((u / 1048576 : Nat) : Int) = (u : Int) / 1048576 by omega] at hc
    have hres : decL u = [dgB (u / 1048576)] := by unfold decL; rw [if_pos h0]
    rw [hres]
    have h0' : (u : Int) % 1048576 ≤ 0 := by omega
    have h0'' : (0 : Int) ≤ u % 1048576 := by omega
    clear h0 hres hl
    go_enter Tryd.func32, Tryd.ntmps32
    go_wp2_with (go_at_call 41; refine (digit_any _ _ (by omega) (by omega)).mono ?_; rintro e w1 ⟨rfl, rfl⟩)
    refine wp_loop_rounds 1 ?_
    rw [rounds_succ]
    go_wp2
    go_ret
    exact ⟨rfl, hb1⟩
  · have h0' : (0 : Int) < (u : Int) % 1048576 := by omega
    have hpos : u % 1048576 < 1048576 := Nat.mod_lt _ (by omega)
    have HR : Hid (decL u = [dgB (u / 1048576)] ++ [46] ++ tailD 20 (u % 1048576)) := by unfold Hid decL; rw [if_neg h0]; rfl
    clear h0
    go_enter Tryd.func32, Tryd.ntmps32
    go_wp2_with (first
      | (go_at_call 41; refine (digit_any _ _ (by omega) (by omega)).mono ?_; rintro e w1 ⟨rfl, rfl⟩)
      | (at_builtin; refine wpList_append_own _ rfl _ _ 77 rfl w.heap.size 5 i0 (.int .u8 0) 1 1 Tryd.underlying77 hi hz0 hz1 hz2 rfl (by decide) _ _ _ rfl (hl.alloc _) ⟨w.heap.size + 1, 0, none⟩ 1 1 [.int .u8 46] rfl rfl ?c1 ?c2 ?c3 ?c4 ?c5 ?_))
    case c1 =>
      intro j x hj
      match j, hj with
      | 0, hj => simp at hj; subst hj; simp [Addr.add]
    case c2 => intro x hx; simp at hx; subst hx; rfl
    case c3 => unfold maxLen; simp
    case c4 => simp
    case c5 => simp; omega
    intro v' w1 hown' hgrow _
    have hown2 := ownB_dot hown'
    have hb2 : Below w.heap.size w w1 := (hb1.alloc (by simp) _).grown hgrow (by simp; omega) fun k hk => by simp [Value.ownBlock] at hk; omega
    clear hown' hgrow hb1
    obtain ⟨g, cap, rfl⟩ := ownB_shape hown2 (by simp)
    have HO : Hid (OwnB 5 w.heap.size w1 (.slice (some ⟨g, 0, none⟩) 2 cap) ([dgB (u / 1048576)] ++ [46])) := hown2
    clear hown2 hl
    have HU : Hid (decL u = [dgB (u / 1048576)] ++ [46] ++ tailD 20 (u % 1048576)) := HR
    go_wp2
    go_loopg [3, 4] 20 (fun kx v r wr => ∃ (rest : Nat) (xs : List UInt8) (g cap : Nat), v = .slice (some ⟨g, 0, none⟩) xs.length cap ∧ r = .int .i64 rest ∧ rest < 1048576 ∧ Hid (Dv kx rest) ∧
      Hid (OwnB 5 w.heap.size wr (.slice (some ⟨g, 0, none⟩) xs.length cap) xs) ∧ xs.length + kx ≤ 22 ∧ 1 ≤ xs.length ∧ Hid (decL u = xs ++ tailD kx rest) ∧ Below w.heap.size w wr)
    case atStart => exact ⟨u % 1048576, [dgB (u / 1048576)] ++ [46], g, cap, rfl, rfl, hpos, Dv_start _, HO, by simp, by simp, HU, hb2⟩
    case round =>
      obtain ⟨rest, xs, g, cap, rfl, rfl, hr, HD, HX, hlen, hlen1, HE, hb⟩ := hrel
      by_cases hz : rest = 0
      · subst hz
        have hc := run_convert_bytes_back (P := Tryd.prog) wr 77 9 5 ⟨g, 0, none⟩ cap _ Tryd.underlying77 Tryd.underlying5 Tryd.underlying9 (ownB_cells HX.out)
        go_wp2
        go_ret
        have hE := HE.out
        rw [tailD_zero, List.append_nil] at hE
        rw [hE]
        exact ⟨rfl, hb⟩
      · obtain ⟨k, rfl⟩ : ∃ k, gk = k + 1 := by
          cases gk with
          | zero => exact absurd (Dv_zero HD.out hr) hz
          | succ k => exact ⟨k, rfl⟩
        have hpos' : (0 : Int) < rest := by omega
        have hd9 := dg_bd rest hr
        go_wp2_with (first
          | (go_at_call 41; refine (digit_any _ _ (by omega) (by omega)).mono ?_; rintro e w1 ⟨rfl, rfl⟩)
          | (at_builtin; refine wpList_append_own _ rfl _ _ 77 rfl w.heap.size 5 i0 (.int .u8 0) 1 1 Tryd.underlying77 hi hz0 hz1 hz2 rfl (by decide) _ _ _ rfl (HX.out.alloc _) ⟨wr.heap.size, 0, none⟩ 1 1 [.int .u8 (48 + (rest : Int) * 10 / 1048576)] rfl rfl ?d1 ?d2 ?d3 ?d4 ?d5 ?_))
        case d1 =>
          intro j x hj
          match j, hj with
          | 0, hj => simp at hj; subst hj; simp [Addr.add]
        case d2 => intro x hx; simp at hx; subst hx; rfl
        case d3 => unfold maxLen; omega
        case d4 => omega
        case d5 => have := hb.size; simp; omega
        intro v' w2 hown' hgrow _
        have hown3 := ownB_next (rest * 10 / 1048576) hd9 rfl hown'
        have hb3 : Below w.heap.size w w2 := (hb.alloc hb.size _).grown hgrow (by have := hb.size; simp; omega) fun k hk => (HX.out.lt k hk).1
        clear hown' hgrow hb
        obtain ⟨g', cap', rfl⟩ := ownB_shape hown3 (by simp)
        have HO' : Hid (OwnB 5 w.heap.size w2 (.slice (some ⟨g', 0, none⟩) (xs ++ [dgB (rest * 10 / 1048576)]).length cap') (xs ++ [dgB (rest * 10 / 1048576)])) := hown3
        clear hown3
        have HE' : Hid (decL u = (xs ++ [dgB (rest * 10 / 1048576)]) ++ tailD k (rest * 10 % 1048576)) := by
          unfold Hid; rw [HE.out, tailD_pos k rest (by omega), List.append_assoc]; rfl
        go_wp2
        go_roundg k
        case measure => omega
        case rel => exact ⟨rest * 10 % 1048576, xs ++ [dgB (rest * 10 / 1048576)], g', cap', by simp, by go_num, md_bd rest, Dv_step HD.out, HO', by simp; omega, by simp, HE', hb3⟩

theorem text_ok (u : Nat) (w : World) (hu : u ≤ 1048576) :
    Calls Tryd.prog 23 #[.int .i64 u] w fun e w' => e = .returned (.tuple #[.string ⟨(decL u).toArray⟩, .nilIface]) ∧ Below w.heap.size w w' := by
  have hu1 : (u : Int) ≤ 1048576 := by omega
  go_enter Tryd.func23, Tryd.ntmps23
  go_wp2_with (go_at_call 32; refine (decimal_any u _ hu).mono ?_; rintro e w1 ⟨rfl, hb⟩)
  go_ret2
  exact ⟨rfl, hb⟩

theorem text_no (n : Int) (w : World) (h : ¬ (0 ≤ n ∧ n ≤ 1048576)) :
    Calls Tryd.prog 23 #[.int .i64 n] w fun e w' => e = .returned (.tuple #[.string ⟨#[]⟩, .iface 57 (.int .i64 1)]) ∧ Below w.heap.size w w' := by
  by_cases h1 : n < 0
  · go_enter Tryd.func23, Tryd.ntmps23
    go_wp2
    go_ret2
    exact ⟨rfl, Below.refl _ _⟩
  · have h2 : 1048576 < n := by omega
    clear h
    go_enter Tryd.func23, Tryd.ntmps23
    go_wp2
    go_ret2
    exact ⟨rfl, Below.refl _ _⟩

theorem half : (⟨(decL 524288).toArray⟩ : ByteArray) = ⟨#[48, 46, 53]⟩ := by decide +kernel
theorem third : shareOf 1 3 = 349526 := by decide +kernel

theorem text_half (w : World) :
    Calls Tryd.prog 23 #[.int .i64 524288] w fun e w' => e = .returned (.tuple #[.string ⟨#[48, 46, 53]⟩, .nilIface]) ∧ Below w.heap.size w w' := by
  rw [← half]; exact text_ok 524288 w (by omega)
theorem share_third (w : World) :
    Calls Tryd.prog 9 #[.agg #[.int .i64 1, .int .i64 3]] w fun e w' => e = .returned (.tuple #[.int .i64 349526, .nilIface]) ∧ Below w.heap.size w w' := by
  rw [← third]; exact share_ok 1 3 w (by unfold okR; omega)

theorem sure_any (w : World) : Calls Tryd.prog 14 #[] w fun e w' => e = .returned (.bool true) ∧ Below w.heap.size w w' := by
  go_enter Tryd.func14, Tryd.ntmps14
  go_wp2_with fail
  refine (share_third _).mono ?_
  rintro e w1 ⟨rfl, hb⟩
  go_wp2_with fail
  refine (text_half _).mono ?_
  rintro e w2 ⟨rfl, hb2⟩
  go_wp2_with fail
  go_ret
  exact ⟨rfl, hb.trans (hb2.mono hb.size)⟩
end Go.Proofs.YtlhgopdlpjmbhaaDoor
