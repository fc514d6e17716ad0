/- The program's Chain: the texts of all links, 64 at most; no condition but that a text is at most 2^47 bytes, and what the rows' listed variables hold. -/
import Derived.Test.YtlnamkplbikcjaaGreatDoorYMade
import Derived.Deep.AppendLies
import Derived.Deep.LoopGhost
namespace Go.Proofs.YtlnamkplbikcjaaGreatDoor
open Go.RowKit Ft

theorem infoS : (Tryz.prog.info? 9).map (fun i => (i.zero, i.size, i.bytes)) = some (some (.string ⟨#[]⟩), 1, 16) := by kernel_rfl
/-- Strings as cells. -/
abbrev strs (L : List (List UInt8)) : List Value := L.map fun l => Value.string ⟨l.toArray⟩
theorem inner_ok {e : Er} (h : e.ok) : e.inner.ok := by
  cases e <;> simp_all [Er.inner, Er.ok]
theorem inner_len (e : Er) : (e.inner.txt false).length ≤ (e.txt false).length := by
  cases e <;> simp [Er.inner, Er.txt]
theorem chain_step (f : Nat) {e : Er} (h : e ≠ .nil) : Er.chain (f + 1) e = e.txt false :: Er.chain f e.inner := by
  cases e <;> first | exact absurd rfl h | rfl
theorem chain_nil (f : Nat) : Er.chain f .nil = [] := by cases f <;> rfl
theorem one_cell (w : World) (x : Value) (t : TypeId) : ∀ j u, [x][j]? = some u → (w.alloc (.cells #[x] t)).cell? ((⟨w.heap.size, 0, none⟩ : Addr).add j) = some u := by
  intro j u hu
  match j, hu with
  | 0, hu => simp at hu; subst hu; simp [Addr.add]
/-- What Chain answers. -/
def ChPost (w : World) (L : List (List UInt8)) (r : Ending) (w' : World) : Prop :=
  ∃ p cap, r = .returned (.slice p L.length cap) ∧ w'.ownsRow w.heap.size 9 1 (.slice p L.length cap) L.length (strs L) ∧ Below w.heap.size w w'
set_option maxHeartbeats 2000000 in
set_option maxRecDepth 100000 in
theorem chain_any (e : Er) (he : e.ok) (N : Nat) (v : Value) (w : World) (hN : N ≤ w.heap.size) (hg : LaidAt w) (hv : EV N w e v) (hs : (e.txt false).length ≤ 140737488355328) :
    Calls Tryz.prog 12 #[v] w (ChPost w (e.chain 64)) := by
  obtain ⟨i0, hi, hz0, hz1, hz2⟩ := info_parts infoS
  have HG := Lib.hid hg
  have HV := Lib.hid hv
  have HO := Lib.hid he
  have HS := Lib.hid hs
  clear hg hv he hs
  go_enter Tryz.func12, Tryz.ntmps12
  go_wp2_with fail
  go_loopg [0, 3] 64 (fun kx v sv wr => ∃ (e' : Er) (R : List (List UInt8)) (p : Option Addr) (cap : Nat), kx + R.length = 64 ∧ sv = .slice p R.length cap ∧ Hid (e.chain 64 = R ++ e'.chain kx) ∧ Hid (e'.ok) ∧ Hid ((e'.txt false).length ≤ 140737488355328) ∧ Hid (EV N wr e' v) ∧ Hid (wr.ownsRow w.heap.size 9 1 (.slice p R.length cap) R.length (strs R)) ∧ Hid (Below w.heap.size w wr))
  case atStart => exact ⟨e, [], none, 0, rfl, rfl, Lib.hid rfl, HO, HS, HV, Lib.hid (World.ownsRow_nil _ _ _ _), Lib.hid (Below.refl _ _)⟩
  case round =>
    obtain ⟨e', R, p, cap, hk, rfl, hc, ho, hl, hv', hown, hb⟩ := hrel
    have hsz := hb.out.size
    by_cases hn : e' = .nil
    · subst hn
      have hvv := hv'.out
      cases hvv
      have HR := Lib.hid (show e.chain 64 = R by rw [hc.out, chain_nil, List.append_nil])
      go_wp2_with fail
      go_ret
      refine ⟨p, cap, ?_, ?_, hb.out⟩
      · rw [HR.out]; rfl
      · rw [HR.out]; exact hown.out
    · have HT := Lib.hid (own_any e' ho.out hn _ wr (HG.out.below hb.out) (hv'.out.up (by omega)) hl.out)
      have HI := Lib.hid (fun W (hW : Below w.heap.size w W) => inner_any e' hn N _ W (hv'.out.keep' hb.out hW hN))
      obtain ⟨ti, pi, rfl⟩ := hv'.out.iface hn
      have HNn := Lib.hid hn
      clear hn
      by_cases hk0 : gk = 0
      · have HR := Lib.hid (show e.chain 64 = R by rw [hc.out, hk0]; simp [Er.chain])
        have h64 : R.length = 64 := by omega
        have h64' : ¬ ((R.length : Int) < 64) := by omega
        go_wp2_with fail
        go_ret
        refine ⟨p, cap, ?_, ?_, hb.out⟩
        · rw [HR.out, h64]; rfl
        · rw [HR.out]; exact hown.out
      · obtain ⟨g', rfl⟩ : ∃ g', gk = g' + 1 := ⟨gk - 1, by omega⟩
        have h64 : ((R.length : Int) < 64) := by omega
        clear hk0
        go_wp2_with fail
        refine HT.out.mono ?_
        rintro r w1 ⟨rfl, hb1⟩
        have hbw := bnext hb.out hb1
        have hown1 := own_under hown.out hb1
        go_wp2_with (at_builtin; refine wpList_append_lies _ rfl _ _ 33 rfl w.heap.size 9 i0 (.string ⟨#[]⟩) 1 16 Tryz.underlying33 hi hz0 hz1 hz2 rfl (by decide) _ _ _ rfl (hown1.alloc _) ⟨w1.heap.size, 0, none⟩ 1 1 [.string ⟨(e'.txt false).toArray⟩] rfl rfl (one_cell w1 _ _) (by intro u hu; simp at hu; subst hu; rfl) (by decide) (by unfold maxLen; omega) (by omega) (by have := hbw.size; simp; omega) (w1.heap.size + 1) (by simp) ?_)
        intro g3 c3 w3 hown3 hgrow3 hat3 hlt3
        have hb3 : Below w.heap.size w w3 := (hbw.alloc hbw.size _).grown hgrow3 (by have := hbw.size; simp; omega) (fun k hk => (hown1.lt k hk).1)
        have HR := Lib.hid (show e.chain 64 = (R ++ [e'.txt false]) ++ e'.inner.chain g' by rw [hc.out, chain_step g' HNn.out]; simp)
        have HOW := Lib.hid (show w3.ownsRow w.heap.size 9 1 (.slice (some ⟨g3, 0, none⟩) (R ++ [e'.txt false]).length c3) (R ++ [e'.txt false]).length (strs (R ++ [e'.txt false])) by
          rw [List.length_append]
          simpa [strs] using hown3)
        have HB3 := Lib.hid hb3
        have HII := Lib.hid (HI.out w3 hb3)
        clear hown1 hown3 hgrow3 hat3 hlt3 hb3 hbw
        go_wp2_with fail
        refine HII.out.mono ?_
        rintro r w4 ⟨rfl, u, rfl, hu⟩
        have HU := Lib.hid hu
        clear hu
        go_wp2_with fail
        go_roundg g'
        case measure => omega
        case rel => exact ⟨e'.inner, R ++ [e'.txt false], some ⟨g3, 0, none⟩, c3, by simp; omega, by simp, HR, Lib.hid (inner_ok ho.out), Lib.hid (Nat.le_trans (inner_len e') hl.out), HU, HOW, HB3⟩
end Go.Proofs.YtlnamkplbikcjaaGreatDoor
