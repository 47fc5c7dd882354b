/-
  Walks of the document's own Of, Copy, New and Words (package parleyref01). No statement of the seat is proved here.
-/
import Derived.Test.YtmffkcbdgpaieaaRefA
namespace Go.Proofs.Ytmffkcbdgpaieaa
open Go.RowKit

/-- What append has laid, as a block. -/
theorem ref_block {w : World} {base : Nat} {v : Value} {ws : List Int} {n : Nat} (h : w.ownsRow base 36 1 v n (u64s ws).toList) (hp : 1 ≤ n) :
    ∃ g cap rest, v = .slice (some ⟨g, 0, none⟩) n cap ∧ base ≤ g ∧ n ≤ cap ∧ w.heap[g]? = some (.cells (refCells ws rest) 36 (0, 0)) := by
  rcases h.2 with ⟨_, h0⟩ | ⟨g, cap, cur, rfl, h1, h2, h3, h4, h5, h6⟩
  · omega
  · refine ⟨g, cap, cur.toList.drop n, rfl, h1, h3, ?_⟩
    rw [h2]
    congr 2
    unfold refCells
    rw [Nat.mul_one] at h6
    have : cur.toList = cur.toList.take n ++ cur.toList.drop n := (List.take_append_drop n _).symm
    rw [h6] at this
    have e : (u64s ws).toList = ws.map (Value.int .u64) := by simp [u64s]
    rw [e] at this
    rw [← this]

theorem ref_made {w1 : World} {g cap : Nat} {rest : List Value} {ws : List Int} (hb : w1.heap[g]? = some (.cells (refCells ws rest) 36 (0, 0))) (h1 : 1 ≤ ws.length) (h2 : ws.length ≤ 65536) (hc : ws.length ≤ cap) :
    RefAt (w1.alloc (.cells #[.slice (some ⟨g, 0, none⟩) ws.length cap, .int .u64 0] 55)) w1.heap.size g cap rest ws 0 :=
  ⟨(MapKept.heap_alloc w1 _).1, (Below.heap_alloc _ _ _ (lt_of_block hb)).trans hb, by have := lt_of_block hb; omega, h1, h2, hc⟩

/-- A row of the document's is handed back in new memory, with these words, without accesses. -/
def RefMade (w : World) (ws : List Int) (r : Value → Value) (e : Ending) (w' : World) : Prop := ∃ b d cap rest, e = .returned (r (.pointer (some ⟨b, 0, none⟩))) ∧ w.heap.size ≤ b ∧ w.heap.size ≤ d ∧ RefAt w' b d cap rest ws 0 ∧ Keeps (fun _ => False) w w'

set_option maxHeartbeats 400000 in
theorem rof_no (sp : Option Addr) (l c : Nat) (w : World) (h : l < 1 ∨ 65536 < l) : Calls Try.prog 12 #[.slice sp l c] w fun e w' => e = .returned (.tuple #[.pointer none, .int .i64 2]) ∧ w' = w := by
  by_cases h1 : (l : Int) < 1
  · go_enter Try.func12, Try.ntmps12
    go_wp2
    go_ret2
    exact ⟨rfl, rfl⟩
  · have h2 : (65536 : Int) < l := by omega
    go_enter Try.func12, Try.ntmps12
    go_wp2
    go_ret2
    exact ⟨rfl, rfl⟩

set_option maxHeartbeats 400000 in
theorem rof_yes (sp : Option Addr) (l c : Nat) (ws : List Int) (w : World) (hn : ws.length = l) (hr : Reads w sp ws) (h1 : 1 ≤ l) (h2 : l ≤ 65536) :
    Calls Try.prog 12 #[.slice sp l c] w (RefMade w ws fun p => .tuple #[p, .int .i64 0]) := by
  obtain ⟨v1, w1, hr1, ho1, hg1⟩ := append_words w w.heap.size (.slice none 0 0) 0 [] (World.ownsRow_nil _ _ _ _) sp l c ws hn hr (fun e => by
    obtain ⟨a, ha, _⟩ := hr 0 (by omega)
    rw [e] at ha
    cases ha) (by omega) (Nat.le_refl _)
  have hk1 : Keeps (fun _ => False) w w1 := Keeps.of_grown hg1 (fun k hk => by cases hk)
  simp only [Nat.zero_add, List.nil_append] at ho1
  obtain ⟨g, cap, rest, rfl, hg, hcap, hb⟩ := ref_block ho1 h1
  have h3 : ¬ (l : Int) < 1 := by omega
  have h4 : ¬ (65536 : Int) < l := by omega
  have hm := ref_made (cap := cap) hb (by omega) (by omega) (by omega)
  rw [hn] at hm
  have hz := hk1.size
  clear ho1 hg1 hb hr hn
  go_enter Try.func12, Try.ntmps12
  go_wp2_with (at_builtin; refine wpList_append_run rfl _ _ 22 rfl _ _ _ _ rfl rfl hr1 ?_; clear hr1)
  go_ret2
  exact ⟨_, _, _, _, rfl, hz, hg, hm, hk1.alloc _⟩

set_option maxHeartbeats 400000 in
theorem rcopy_nil (w : World) : Calls Try.prog 17 #[.pointer none] w fun e w' => e = .returned (.pointer none) ∧ w' = w := by
  go_enter Try.func17, Try.ntmps17
  go_wp2
  go_ret
  exact ⟨rfl, rfl⟩

set_option maxHeartbeats 400000 in
theorem rcopy_at (b c cap : Nat) (rest : List Value) (ws : List Int) (n : Int) (w : World) (h : RefAt w b c cap rest ws n) :
    Calls Try.prog 17 #[.pointer (some ⟨b, 0, none⟩)] w (RefMade w ws fun p => p) := by
  have hp := h.pos
  have hle := h.le
  have c0 := h.cell0
  obtain ⟨v1, w1, hr1, ho1, hg1⟩ := append_words w w.heap.size (.slice none 0 0) 0 [] (World.ownsRow_nil _ _ _ _) (some ⟨c, 0, none⟩) ws.length cap ws rfl h.reads (fun e => by cases e) (by omega) (Nat.le_refl _)
  have hk1 : Keeps (fun _ => False) w w1 := Keeps.of_grown hg1 (fun k hk => by cases hk)
  simp only [Nat.zero_add, List.nil_append] at ho1
  obtain ⟨g, cap', rest', rfl, hg, hcap, hb⟩ := ref_block ho1 hp
  have hm := ref_made (cap := cap') hb (by omega) (by omega) (by omega)
  have hz := hk1.size
  clear ho1 hg1 hb h
  go_enter Try.func17, Try.ntmps17
  go_wp2_with (at_builtin; refine wpList_append_run rfl _ _ 22 rfl _ _ _ _ rfl rfl hr1 ?_; clear hr1)
  go_ret
  exact ⟨_, _, _, _, rfl, hz, hg, hm, hk1.alloc _⟩

end Go.Proofs.Ytmffkcbdgpaieaa
