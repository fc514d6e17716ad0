/- The law FifoRuns: what its loop carries, ahead of the walk; no condition but those that the rows name. -/
import Derived.Test.YtdpchojfgcjbeaaFDoD
import Derived.Test.YtdpchojfgcjbeaaFAlike
import Derived.Test.YtdpchojfgcjbeaaFWorks
import Derived.Test.YtdpchojfgcjbeaaFOpens
namespace Go.Proofs.Ytdpchojfgcjbeaa
open Go.RowKit Go.Shelf

/-- Between two acts: the queue, the document's queue in its box. -/
def RI (w : World) (limit : Int) (qb mb k : Nat) (W : World) : Prop :=
  ∃ (A : Qu) (s u : Value) (L : List (Int × Int)), PQ QT_I ET_I 1 w.heap.size W A qb s ∧ A.Good 1 ∧ A.limit = limit ∧ A.last ≤ k ∧ A.l = ent_I L ∧ Nums W u (L.map (·.1)) ∧
    W.heap[mb]? = some (.cells #[.int .i64 limit, u] RT (0, 0)) ∧ Below w.heap.size w W ∧ w.heap.size ≤ mb

/-- Behind an act: what comes next lies in a box of its own. -/
def RX (w : World) (limit : Int) (qb mb nb k : Nat) (W : World) : Prop :=
  ∃ (A : Qu) (s u u0 : Value) (L : List (Int × Int)), PQ QT_I ET_I 1 w.heap.size W A qb s ∧ A.Good 1 ∧ A.limit = limit ∧ A.last ≤ k ∧ A.l = ent_I L ∧ Nums W u (L.map (·.1)) ∧
    W.heap[mb]? = some (.cells #[.int .i64 limit, u0] RT (0, 0)) ∧ W.heap[nb]? = some (.cells #[.int .i64 limit, u] RT (0, 0)) ∧ Below w.heap.size w W ∧ w.heap.size ≤ mb

/-- What do answers, whatever the act. -/
def DoAny (B : Nat) (w : World) (lim last : Int) (b : Nat) (s : Value) (e : Ending) (w' : World) : Prop :=
  ∃ (A' : Qu) (L' : List (Int × Int)) (p : Option Addr) (c : Nat), e = .returned (.tuple #[.agg #[.int .i64 lim, .slice p L'.length c], .bool true]) ∧ A'.Good 1 ∧ A'.limit = lim ∧ A'.last ≤ last ∧ A'.l = ent_I L' ∧
    Nums w' (.slice p L'.length c) (L'.map (·.1)) ∧ ∃ s', PQ QT_I ET_I 1 B w' A' b s' ∧ Keeps (fun x => x = b ∨ s.ownBlock = some x) w w'
theorem do_one (B : Nat) (w : World) (A : Qu) (hA : A.Good 1) (L : List (Int × Int)) (hl : A.l = ent_I L) (b : Nat) (s v : Value) (hq : PQ QT_I ET_I 1 B w A b s) (hB : B ≤ w.heap.size) (hn : Nums w v (L.map (·.1))) (hlast : A.last + 1 ≤ 9223372036854775807) (kind i x limit last : Int) (hlim : A.limit = limit) (hk : A.last + 1 ≤ last) :
    Calls Try.prog 12 #[.pointer (some ⟨b, 0, none⟩), .agg #[.int .i64 limit, v], .agg #[.int .i64 kind, .int .i64 i, .int .i64 x]] w (DoAny B w limit last b s) := by
  subst hlim
  obtain ⟨A', L', hA', hlm', hla', hll', hdo⟩ := do_any B w A hA L hl b s v hq hB hn hlast kind i x
  refine hdo.mono fun e w' he => ?_
  obtain ⟨v', rfl, hn', s', hq', hk'⟩ := he
  obtain ⟨p', c', rfl, _⟩ := own_small hn'
  rw [List.length_map] at hn' ⊢
  exact ⟨A', L', p', c', rfl, hA', hlm', by omega, hll', hn', s', hq', hk'⟩
theorem rx_1 {w wr W : World} {limit : Int} {qb mb k : Nat} {A A' : Qu} {s s' u0 u : Value} {L' : List (Int × Int)} (hq : PQ QT_I ET_I 1 w.heap.size wr A qb s) (hbox : wr.heap[mb]? = some (.cells #[.int .i64 limit, u0] RT (0, 0))) (hbel : Below w.heap.size w wr) (hmb : w.heap.size ≤ mb)
    (hA' : A'.Good 1) (hlim : A'.limit = limit) (hlast : A'.last ≤ k) (hl : A'.l = ent_I L') (hn : Nums W u (L'.map (·.1))) (hq' : PQ QT_I ET_I 1 w.heap.size W A' qb s') (hk : Keeps (fun x => x = qb ∨ s.ownBlock = some x) wr.drew W) :
    RX w limit qb mb W.heap.size k (W.alloc (.cells #[.int .i64 limit, u] RT)) := by
  have h1 := hq.drew.other (X := mb) hbox (by decide) (by decide)
  have hb := hq.drew.under hk
  have hbb : Below w.heap.size w W := hbel.drew.trans hb
  exact ⟨A', s', u, u0, L', hq'.alloc _, hA', hlim, hlast, hl, own_below hn ((Below.refl _ _).alloc (Nat.le_refl _) _),
    (heap_alloc_old W _ _ (Nat.lt_of_lt_of_le (lt_of_block hbox) hk.size)).trans ((hk.block mb (lt_of_block hbox) h1).trans hbox), heap_alloc_new _ _, hbb.alloc hbb.size _, hmb⟩
theorem rx_2 {w wr W : World} {limit : Int} {qb mb k : Nat} {A A' : Qu} {s s' u0 u z0 z1 : Value} {L' : List (Int × Int)} (hq : PQ QT_I ET_I 1 w.heap.size wr A qb s) (hbox : wr.heap[mb]? = some (.cells #[.int .i64 limit, u0] RT (0, 0))) (hbel : Below w.heap.size w wr) (hmb : w.heap.size ≤ mb)
    (hA' : A'.Good 1) (hlim : A'.limit = limit) (hlast : A'.last ≤ k) (hl : A'.l = ent_I L') (hn : Nums W u (L'.map (·.1))) (hq' : PQ QT_I ET_I 1 w.heap.size W A' qb s') (hk : Keeps (fun x => x = qb ∨ s.ownBlock = some x) (wr.drew.alloc (.cells #[z0, z1] RT)) W) :
    RX w limit qb mb wr.heap.size k ((W.setCell ⟨wr.heap.size, 0, none⟩ (.int .i64 limit)).setCell ⟨wr.heap.size, 1, none⟩ u) := by
  have hqa := hq.drew.alloc (.cells #[z0, z1] RT)
  have hlt := lt_of_block hbox
  have hba : (wr.drew.alloc (.cells #[z0, z1] RT)).heap[mb]? = some (.cells #[.int .i64 limit, u0] RT (0, 0)) := (heap_alloc_old wr.drew _ _ hlt).trans hbox
  have hna : (wr.drew.alloc (.cells #[z0, z1] RT)).heap[wr.heap.size]? = some (.cells #[z0, z1] RT (0, 0)) := heap_alloc_new wr.drew _
  have h1 := hqa.other (X := mb) hba (by decide) (by decide)
  have h2 := hqa.other (X := wr.heap.size) hna (by decide) (by decide)
  have hb := hqa.under hk
  have hbb : Below w.heap.size w W := ((hbel.drew).alloc hbel.size _).trans hb
  have hnb := (hk.block wr.heap.size (by simp) h2).trans hna
  have hmbW := (hk.block mb (by simp; omega) h1).trans hba
  refine ⟨A', s', u, u0, L', pq_set2 hq' hnb _ _, hA', hlim, hlast, hl, nums_set2 hn hnb _ _, ?_, ?_, (hbb.setCell (p := ⟨wr.heap.size, 0, none⟩) hbel.size _).setCell (p := ⟨wr.heap.size, 1, none⟩) hbel.size _, hmb⟩
  · rw [heap_setCell_other _ _ _ _ (by simp; omega), heap_setCell_other _ _ _ _ (by simp; omega)]; exact hmbW
  · rw [heap_setCell_same _ _ _ _ _ _ ((heap_setCell_same _ _ _ _ _ _ hnb).trans rfl)]; rfl
theorem new2 {S : Nat → Prop} {w W : World} {z0 z1 : Value} {T : TypeId} (hk : Keeps S (w.drew.alloc (.cells #[z0, z1] T)) W) (hn : ¬ S w.heap.size) :
    W.cell? ⟨w.heap.size, 0, none⟩ = some z0 ∧ W.cell? ⟨w.heap.size, 1, none⟩ = some z1 ∧ W.frozen? ⟨w.heap.size, 0, none⟩ = false ∧ W.frozen? ⟨w.heap.size, 1, none⟩ = false := by
  have hb := (hk.block w.heap.size (by simp) hn).trans (heap_alloc_new w.drew (.cells #[z0, z1] T))
  exact ⟨(cell_of_row _ _ _ _ _ _ hb).trans rfl, (cell_of_row _ _ _ _ _ _ hb).trans rfl, frozen_of_row _ _ _ _ _ hb, frozen_of_row _ _ _ _ _ hb⟩
/-- What comes next is laid at its place. -/
theorem rx_in {w W : World} {limit : Int} {qb mb nb k : Nat} (h : RX w limit qb mb nb k W) :
    ∃ (A : Qu) (s : Value) (p : Option Addr) (c : Nat) (u0 : Value) (L : List (Int × Int)), A.Good 1 ∧ A.limit = limit ∧ A.l = ent_I L ∧
      W.cell? ⟨nb, 0, none⟩ = some (.int .i64 limit) ∧ W.cell? ⟨nb, 1, none⟩ = some (.slice p L.length c) ∧ W.cell? ⟨mb, 0, none⟩ = some (.int .i64 limit) ∧ W.cell? ⟨mb, 1, none⟩ = some u0 ∧ W.frozen? ⟨mb, 0, none⟩ = false ∧ W.frozen? ⟨mb, 1, none⟩ = false ∧
      PQ QT_I ET_I 1 w.heap.size ((W.setCell ⟨mb, 0, none⟩ (.int .i64 limit)).setCell ⟨mb, 1, none⟩ (.slice p L.length c)) A qb s ∧
      Nums ((W.setCell ⟨mb, 0, none⟩ (.int .i64 limit)).setCell ⟨mb, 1, none⟩ (.slice p L.length c)) (.slice p L.length c) (L.map (·.1)) ∧
      ((W.setCell ⟨mb, 0, none⟩ (.int .i64 limit)).setCell ⟨mb, 1, none⟩ (.slice p L.length c)).cell? ⟨mb, 0, none⟩ = some (.int .i64 limit) ∧
      ((W.setCell ⟨mb, 0, none⟩ (.int .i64 limit)).setCell ⟨mb, 1, none⟩ (.slice p L.length c)).cell? ⟨mb, 1, none⟩ = some (.slice p L.length c) ∧
      mb < W.heap.size ∧ nb < W.heap.size ∧
      RI w limit qb mb k ((W.setCell ⟨mb, 0, none⟩ (.int .i64 limit)).setCell ⟨mb, 1, none⟩ (.slice p L.length c)) := by
  obtain ⟨A, s, u, u0, L, hq, hA, hlim, hlast, hl, hn, hbox, hnb, hbel, hmb⟩ := h
  obtain ⟨p, c, rfl, _⟩ := own_small hn
  rw [List.length_map] at hn hnb
  have hq2 := pq_set2 hq hbox (.int .i64 limit) (.slice p L.length c)
  have hn2 := nums_set2 hn hbox (.int .i64 limit) (.slice p L.length c)
  have hb2 : ((W.setCell ⟨mb, 0, none⟩ (.int .i64 limit)).setCell ⟨mb, 1, none⟩ (.slice p L.length c)).heap[mb]? = some (.cells #[.int .i64 limit, .slice p L.length c] RT (0, 0)) := by
    rw [heap_setCell_same _ _ _ _ _ _ ((heap_setCell_same _ _ _ _ _ _ hbox).trans rfl)]; rfl
  exact ⟨A, s, p, c, u0, L, hA, hlim, hl, (cell_of_row _ _ _ _ _ _ hnb).trans rfl, (cell_of_row _ _ _ _ _ _ hnb).trans rfl, (cell_of_row _ _ _ _ _ _ hbox).trans rfl, (cell_of_row _ _ _ _ _ _ hbox).trans rfl, frozen_of_row _ _ _ _ _ hbox, frozen_of_row _ _ _ _ _ hbox,
    hq2, hn2, (cell_of_row _ _ _ _ _ _ hb2).trans rfl, (cell_of_row _ _ _ _ _ _ hb2).trans rfl, lt_of_block hbox, lt_of_block hnb,
    A, s, _, L, hq2, hA, hlim, hlast, hl, hn2, hb2, (hbel.setCell (p := ⟨mb, 0, none⟩) hmb _).setCell (p := ⟨mb, 1, none⟩) hmb _, hmb⟩
theorem ri_below {w W W' : World} {limit : Int} {qb mb k : Nat} (h : RI w limit qb mb k W) (hb : Below W.heap.size W W') : RI w limit qb mb k W' := by
  obtain ⟨A, s, u, L, hq, hA, hlim, hlast, hl, hn, hbox, hbel, hmb⟩ := h
  exact ⟨A, s, u, L, hq.below hb, hA, hlim, hlast, hl, own_below hn hb, (hb.block mb (lt_of_block hbox)).trans hbox, bnext hbel hb, hmb⟩
end Go.Proofs.Ytdpchojfgcjbeaa
