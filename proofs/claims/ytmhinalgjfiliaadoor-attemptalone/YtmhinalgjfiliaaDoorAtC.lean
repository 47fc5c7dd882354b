
/-
  An attempt is made: the table of its deeds, and its two logs. No statement of the seat is proved here.
-/
import Derived.Test.YtmhinalgjfiliaaDoorAtB
import Derived.Laws.EntriesVeiled
namespace Go.Proofs.YtmhinalgjfiliaaDoor
open Go.RowKit Go.Shelf

def deedV (a : Nat) : Array Value :=
  #[.nilFunc, .nilFunc, mv 59 a, mv 60 a, mv 61 a, mv 62 a, mv 63 a, mv 39 a, mv 64 a, mv 65 a, .nilFunc]

set_option maxRecDepth 100000 in
set_option maxHeartbeats 1000000 in
theorem table_at (a : Nat) (w : World) :
    Calls Tryd.prog 45 #[.pointer (some ⟨a, 0, none⟩)] w fun e w' => e = .returned (.agg (deedV a)) ∧ w' = w.alloc (.cells (deedV a) 78) := by
  unfold deedV mv
  go_enter Tryd.func45, Tryd.ntmps45
  go_wp2
  refine bodyPost_ret (v := .agg (deedV a)) (by rw [results_cell rfl]; unfold deedV mv; go_simp) rfl ?_
  exact ⟨rfl, rfl⟩

/-- A block with one cell written. -/
theorem AttX.lg {w : World} {a : Nat} {c : Array Value} {t : TypeId} (h : w.heap[a]? = some (.cells c t (0, 0))) (i : Nat) {v : Value} (hv : c[i]? = some v) : w.cell? ⟨a, i, none⟩ = some v ∧ w.frozen? ⟨a, i, none⟩ = false :=
  ⟨(cell_of_block h i).trans hv, frozen_of_block h i⟩

def sd0 (s : Int) : Sd := ⟨s, [], [], 1, 0, 0, 0, 0, 0⟩
/-- A state without entries, as it is handed in. -/
def stV (S : Sd) (r q : Value) : Array Value := #[.int .u64 S.sn, r, q, .int .i64 S.ph, .int .i64 S.th, .int .u64 S.ad, .int .u64 S.wo, .int .u64 S.fo, .int .i64 S.pl]
/-- An attempt's block as it is made. -/
def rawV (a rb ck : Nat) (rr dr : Option Addr) (S : Sd) : Array Value :=
  #[.pointer (some ⟨rb, 0, none⟩), .pointer (some ⟨ck, 0, none⟩), .int .u64 S.sn, .pointer rr, .pointer dr, .int .i64 S.ph, .int .i64 S.th, .int .u64 S.ad, .int .u64 S.wo, .int .u64 S.fo, .int .i64 S.pl,
    .nilFunc, .nilFunc, mv 59 a, mv 60 a, mv 61 a, mv 62 a, mv 63 a, mv 39 a, mv 64 a, mv 65 a, .nilFunc]

set_option maxRecDepth 100000 in
set_option maxHeartbeats 1000000 in
theorem laid_none (S : Sd) (rb ck : Nat) (w : World) (h0 : 0 < w.heap.size) (hr : S.rd = []) (hq : S.wr = []) :
    Calls Tryd.prog 25 #[.agg (stV S (.slice none 0 0) (.slice none 0 0)), .pointer (some ⟨rb, 0, none⟩), .pointer (some ⟨ck, 0, none⟩)] w fun e w' => ∃ a rr dr Or Od, e = .returned (.pointer (some ⟨a, 0, none⟩)) ∧
      (∀ R : Sh, R.rb = rb → R.ck = ck → AttX w' a R rr dr [] Or Od S) ∧ (∀ q, AOwn a Or Od q → w.heap.size ≤ q) ∧ Keeps (fun _ => False) w w' := by
  have ht := fun a w => table_at a w
  have HR : Hid (∀ o o' o'' : Obj, Calls Tryd.prog 46 #[.int .i64 1024] (((w.alloc o).alloc o').alloc o'') fun e W => ∃ r, e = .returned (.tuple #[.pointer (some ⟨r, 0, none⟩), .int .i64 0]) ∧
      W.heap[w.heap.size]? = some o ∧ W.heap[w.heap.size + 1]? = some o' ∧ Hid ((∃ Or, RLogAt W r 1024 [] Or ∧ ∀ q, Or q → w.heap.size + 3 ≤ q) ∧ Keeps (fun _ => False) w W ∧ w.heap.size + 3 ≤ W.heap.size)) := fun o o' o'' => by
    have e3 : (((w.alloc o).alloc o').alloc o'').heap.size = w.heap.size + 3 := by simp
    have b1 : (((w.alloc o).alloc o').alloc o'').heap[w.heap.size + 1]? = some o' := by
      have := alloc_block (w.alloc o) o'
      rw [World.size_alloc] at this
      exact alloc_old this _
    refine (rlog_new 1024 (by decide) _).mono fun e W ⟨r, h1, ⟨Or, h2, h3⟩, h4⟩ => ⟨r, h1, h4.old (alloc_old (alloc_old (alloc_block w o) _) _) (fun f => f), h4.old b1 (fun f => f), ⟨Or, h2, fun q hq => ?_⟩, ((((Keeps.refl _ w).alloc _).alloc _).alloc _).trans h4, ?_⟩
    · have := h3 q hq; omega
    · have := h4.size; omega
  have HN : Hid (∀ (W2 : World) (r : Nat) (o : Obj) (c : Array Value), W2.heap[w.heap.size]? = some o → W2.heap[w.heap.size + 1]? = some (.cells c 80 (0, 0)) →
      Calls Tryd.prog 47 #[.int .i64 1024] (W2.setCell ⟨w.heap.size + 1, 3, none⟩ (.pointer (some ⟨r, 0, none⟩))) fun e W => ∃ d, e = .returned (.tuple #[.pointer (some ⟨d, 0, none⟩), .int .i64 0]) ∧
      W.heap[w.heap.size]? = some o ∧ W.heap[w.heap.size + 1]? = some (.cells (c.setIfInBounds 3 (.pointer (some ⟨r, 0, none⟩))) 80 (0, 0)) ∧ Hid ((∃ Od, LogAt W d 1024 [] Od ∧ ∀ q, Od q → W2.heap.size ≤ q) ∧ Keeps (fun q => q = w.heap.size + 1) W2 W)) := fun W2 r o c b0 b1 => by
    have k1 : Keeps (fun q => q = w.heap.size + 1) W2 (W2.setCell ⟨w.heap.size + 1, 3, none⟩ (.pointer (some ⟨r, 0, none⟩))) := (Keeps.refl (fun q => q = w.heap.size + 1) W2).setCell (p := ⟨w.heap.size + 1, 3, none⟩) (.inr rfl) _
    have hs := k1.size
    have hl := lt_of_block b0
    refine (log_new 1024 (by decide) _ (by omega)).mono fun e W ⟨d, h1, ⟨Od, h2, h3⟩, h4⟩ => ⟨d, h1, h4.old (k1.old b0 (by omega)) (fun f => f), h4.old (block_set b1 3 _) (fun f => f), ⟨Od, h2, fun q hq => ?_⟩, k1.trans (h4.mono (fun _ _ f => f.elim))⟩
    have := h3 q hq; omega
  unfold stV
  unfold deedV mv at ht
  go_enter Tryd.func25, Tryd.ntmps25
  go_wp2_with (go_at_call 45; refine (ht _ _).mono ?_; rintro e w' ⟨rfl, rfl⟩)
  refine (HR.out _ _ _).mono ?_
  rintro e W2 ⟨r, rfl, b0, b1, hR⟩
  clear HR ht
  have c3 : W2.cell? ⟨w.heap.size + 1, 3, none⟩ = some (.pointer none) := cell_of_block b1 3
  have f3 : W2.frozen? ⟨w.heap.size + 1, 3, none⟩ = false := frozen_of_block b1 3
  have HN2 := HN.out W2 r _ _ b0 b1
  clear b0 b1
  go_wp2_with fail
  refine HN2.mono ?_
  rintro e W3 ⟨d, rfl, b0, b1, hN⟩
  clear HN HN2 c3 f3
  have c4 : W3.cell? ⟨w.heap.size + 1, 4, none⟩ = some (.pointer none) := cell_of_block b1 4
  have f4 : W3.frozen? ⟨w.heap.size + 1, 4, none⟩ = false := frozen_of_block b1 4
  have d1 : W3.cell? ⟨w.heap.size, 1, none⟩ = some (.slice none 0 0) := cell_of_block b0 1
  have d2 : W3.cell? ⟨w.heap.size, 2, none⟩ = some (.slice none 0 0) := cell_of_block b0 2
  have hne : w.heap.size ≠ w.heap.size + 1 := by omega
  have hend : Hid (∃ rr dr Or Od, (∀ R : Sh, R.rb = rb → R.ck = ck → AttX (W3.setCell ⟨w.heap.size + 1, 4, none⟩ (.pointer (some ⟨d, 0, none⟩))) (w.heap.size + 1) R rr dr [] Or Od S) ∧ (∀ q, AOwn (w.heap.size + 1) Or Od q → w.heap.size ≤ q) ∧ Keeps (fun _ => False) w (W3.setCell ⟨w.heap.size + 1, 4, none⟩ (.pointer (some ⟨d, 0, none⟩)))) := by
    obtain ⟨⟨Or, q1, q2⟩, q3, q4⟩ := hR.out
    obtain ⟨⟨Od, p1, p2⟩, p3⟩ := hN.out
    have k4 : Keeps (fun q => q = w.heap.size + 1) W3 (W3.setCell ⟨w.heap.size + 1, 4, none⟩ (.pointer (some ⟨d, 0, none⟩))) := (Keeps.refl (fun q => q = w.heap.size + 1) W3).setCell (p := ⟨w.heap.size + 1, 4, none⟩) (.inr rfl) _
    have k5 := p3.trans k4
    refine ⟨r, d, Or, Od, fun R e1 e2 => ⟨?_, ?_, p1.kept k4 (fun q hq e => by have := p2 q hq; omega), ?_, fun hq => by have := q2 _ hq; omega, fun hq => by have := p2 _ hq; omega, fun q hq hd => ?_⟩, fun q hq => ?_, q3.step k5 (fun i hi e => by omega)⟩
    · rw [block_set b1 4 _, e1, e2]
      rfl
    · rw [hr]
      exact q1.kept k5 (fun q hq e => by have := q2 q hq; omega)
    · rw [hq]; rfl
    · have h1 := q1.lt hq
      have h2 := p2 q hd
      omega
    · rcases hq with rfl | hq | hq
      · omega
      · have := q2 q hq; omega
      · have := p2 q hq; omega
  clear hR hN b0 b1
  go_wp2_with fail
  go_loopw [53] (fun v wr => v = .int .i64 0 ∧ wr = W3.setCell ⟨w.heap.size + 1, 4, none⟩ (.pointer (some ⟨d, 0, none⟩))) (fun _ _ => 0)
  case atStart => exact ⟨rfl, rfl⟩
  case round =>
    obtain ⟨rfl, rfl⟩ := hrel
    go_wp2_with fail
    go_loopw [70] (fun v wr => v = .int .i64 0 ∧ wr = W3.setCell ⟨w.heap.size + 1, 4, none⟩ (.pointer (some ⟨d, 0, none⟩))) (fun _ _ => 0)
    case atStart => exact ⟨rfl, rfl⟩
    case round =>
      obtain ⟨rfl, rfl⟩ := hrel
      go_wp2_with fail
      go_ret
      obtain ⟨rr, dr, Or, Od, q1, q2, q3⟩ := hend.out
      exact ⟨_, rr, dr, Or, Od, rfl, q1, q2, q3⟩
end Go.Proofs.YtmhinalgjfiliaaDoor
