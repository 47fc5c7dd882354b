
/-
  Walks of the program's clone, Words, Copy, Of and Slice (package cells): copies in new memory. No statement of the seat is proved here.
-/
import Derived.Test.YtlldffbohojppaaCRowD
import Derived.Laws.CopyOwn
namespace Go.Proofs.Ytlldffbohojppaa
open Go.RowKit

theorem size36 : (Try.prog.info? 22).map (·.size) = some 1 := by kernel_rfl

/-- A slice of words as it stands in memory: its first cells. -/
def Reads (w : World) (sp : Option Addr) (ws : List Int) : Prop := ∀ i, i < ws.length → ∃ a, sp = some a ∧ w.cell? (a.add i) = some (.int .u64 (ws[i]?.getD 0))

theorem Reads.nil (w : World) (sp : Option Addr) : Reads w sp [] := fun i h => absurd h (by simp)
theorem addr_add (b o i : Nat) : (⟨b, o, none⟩ : Addr).add i = ⟨b, o + i, none⟩ := by unfold Addr.add; split <;> simp_all
theorem Reads.block {w : World} {b : Nat} {ws : List Int} {e : TypeId} (h : w.heap[b]? = some (.cells (u64s ws) e (0, 0))) : Reads w (some ⟨b, 0, none⟩) ws :=
  fun i hi => ⟨_, rfl, by rw [addr_add, Nat.zero_add, cell_of_block h, u64s_get ws i hi]⟩

theorem setRow_keeps (w : World) (x : Array Value) (cs : Array Value) : Keeps (fun _ => False) w ((w.alloc (.cells x 22)).setRow w.heap.size cs) :=
  Keeps.of_below (below_setRow ((Below.refl _ w).alloc (Nat.le_refl _) _) (Nat.le_refl _) cs) _

theorem copy_all (w : World) (x : Array Value) (sp : Option Addr) (l cap : Nat) (ws : List Int) (hn : ws.length = l) (hs0 : x.size = l) (hr : Reads w sp ws) :
    ∃ W, (∀ ty, (Builtin.copy_ #[43, 43] ty #[.slice (some ⟨w.heap.size, 0, none⟩) l l, .slice sp l cap]).run Try.prog (w.alloc (.cells x 22)) = .ok (goInt l) W) ∧ W.heap[w.heap.size]? = some (.cells (u64s ws) 22 (0, 0)) ∧ W.heap.size = w.heap.size + 1 ∧ Keeps (fun _ => False) w W := by
  have hg : (w.alloc (.cells x 22)).heap[w.heap.size]? = some (.cells x 22 (0, 0)) := (MapKept.heap_alloc w _).1
  by_cases h0 : l = 0
  · subst h0
    obtain rfl : ws = [] := List.eq_nil_of_length_eq_zero hn
    obtain rfl : x = #[] := by simpa using hs0
    exact ⟨_, fun ty => run_copy_none _ 43 43 ty 22 _ _ 0 0 0 cap Try.underlying43 size36 rfl, hg, by simp, (Keeps.refl _ w).alloc _⟩
  · obtain ⟨a, rfl, _⟩ := hr 0 (by omega)
    refine ⟨(w.alloc (.cells x 22)).setRow w.heap.size (u64s ws), fun ty => ?_, setRow_heap (w.alloc (.cells x 22)) w.heap.size x (u64s ws) 22 (0, 0) hg, by simp [World.setRow], setRow_keeps w x (u64s ws)⟩
    have h := run_copy_row (P := Try.prog) (w.alloc (.cells x 22)) 43 43 ty 22 w.heap.size 0 l l a l cap x 22 (u64s ws).toList Try.underlying43 size36 hg (by simp [u64s, hn])
      (fun j v hj => by
        have hj' : j < ws.length := by
          have := (List.getElem?_eq_some_iff.1 hj).1
          simpa [u64s] using this
        obtain ⟨a', ha', hc⟩ := hr j hj'
        cases ha'
        rw [show (w.alloc (.cells x 22)).cell? (a.add j) = w.cell? (a.add j) from World.cell?_alloc_lt _ _ _ (World.block_lt_of_cell? _ _ hc), hc, ← u64s_get ws j hj', ← hj]
        simp)
      (by simp [u64s, hn, hs0]) (fun v hv => by
        simp [u64s] at hv
        obtain ⟨y, _, rfl⟩ := hv
        rfl)
    rw [h]
    have : (u64s ws).toList.length = l := by simp [u64s, hn]
    rw [this]
    congr 2
    rw [List.drop_eq_nil_of_le (by simp [hs0])]
    simp

set_option maxHeartbeats 400000 in
theorem clone_any (sp : Option Addr) (l cap : Nat) (ws : List Int) (w : World) (hn : ws.length = l) (hl : l ≤ 65536) (hr : Reads w sp ws) :
    Calls Try.prog 32 #[.slice sp l cap] w fun e w' => e = .returned (.slice (some ⟨w.heap.size, 0, none⟩) l l) ∧ w'.heap[w.heap.size]? = some (.cells (u64s ws) 22 (0, 0)) ∧ w'.heap.size = w.heap.size + 1 ∧ Keeps (fun _ => False) w w' := by
  have hmk := run_make36 w (l : Int) (by omega) (by omega)
  rw [Int.toNat_natCast] at hmk
  have hs0 : (u64s (List.replicate l 0)).size = l := by rw [u64s_size]; simp
  generalize u64s (List.replicate l 0) = x at hmk hs0
  obtain ⟨W, hcp, hb, hz, hk⟩ := copy_all w x sp l cap ws hn hs0 hr
  clear hr hn hs0
  have HZ : Hid (W.heap.size = w.heap.size + 1) := hz
  have HB : Hid (W.heap[w.heap.size]? = some (.cells (u64s ws) 22 (0, 0))) := hb
  clear hz hb
  go_enter Try.func32, Try.ntmps32
  go_wp2
  go_ret
  exact ⟨rfl, HB.out, HZ.out, hk⟩

end Go.Proofs.Ytlldffbohojppaa
