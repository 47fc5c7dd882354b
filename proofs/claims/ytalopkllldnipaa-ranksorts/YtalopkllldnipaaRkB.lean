
/- The document's cells as they lie, and the walks of Get and Put and of room's small functions (layer 24). No statement of the seat is proved here. -/
import Derived.Test.YtalopkllldnipaaRkA
import Derived.Test.YtalopkllldnipaaProg
import Derived.WalkSpells
import Derived.WalkLawsBesides
import Derived.OrdersIn
import Derived.OrdersHeld
import Derived.Deep.QuietTactic
import Derived.BigQuiet
import Derived.Deep.Upon
import Derived.Deep.RegionHeld3
import Derived.Deep.RegionWith
namespace Go.Proofs.Ytalopkllldnipaa
open Go.RowKit

/-- Where words lie: nowhere, if there is no room for any. -/
def adr (g c : Nat) : Option Addr := if c = 0 then none else some ⟨g, 0, none⟩
theorem adr_pos {g c : Nat} (h : c ≠ 0) : adr g c = some ⟨g, 0, none⟩ := if_neg h
/-- The document's cells: their box in the block b, their words in the block g. -/
structure WdAt (w : World) (b g c : Nat) (s : Wd) : Prop where
  box : w.heap[b]? = some (.cells #[.slice (adr g c) s.W.length c, .int .i64 s.g, .int .i64 s.p, .int .i64 s.f, .int .i64 s.c] 37 (0, 0))
  row : (c = 0 ∧ g = b) ∨ (b ≠ g ∧ ∃ cur, w.heap[g]? = some (.cells cur 25 (0, 0)) ∧ ∀ i, i < s.W.length → cur[i]? = some (.int .u64 (oat s.W i)))
  cap : s.W.length ≤ c
  ok : s.Ok
def two (b g : Nat) (k : Nat) : Prop := k = b ∨ k = g

section
variable {w w' : World} {b g c t : Nat} {s : Wd}
theorem WdAt.cell0 (h : WdAt w b g c s) : w.cell? ⟨b, 0, none⟩ = some (.slice (adr g c) s.W.length c) := by rw [cell_of_block h.box]; rfl
theorem WdAt.cell1 (h : WdAt w b g c s) : w.cell? ⟨b, 1, none⟩ = some (.int .i64 s.g) := by rw [cell_of_block h.box]; rfl
theorem WdAt.cell2 (h : WdAt w b g c s) : w.cell? ⟨b, 2, none⟩ = some (.int .i64 s.p) := by rw [cell_of_block h.box]; rfl
theorem WdAt.cell3 (h : WdAt w b g c s) : w.cell? ⟨b, 3, none⟩ = some (.int .i64 s.f) := by rw [cell_of_block h.box]; rfl
theorem WdAt.cell4 (h : WdAt w b g c s) : w.cell? ⟨b, 4, none⟩ = some (.int .i64 s.c) := by rw [cell_of_block h.box]; rfl
theorem WdAt.frozen (h : WdAt w b g c s) (i : Nat) : w.frozen? ⟨b, i, none⟩ = false := frozen_of_block h.box i
theorem WdAt.wcell (h : WdAt w b g c s) (i : Nat) (hi : i < s.W.length) : w.cell? ⟨g, i, none⟩ = some (.int .u64 (oat s.W i)) := by
  rcases h.row with ⟨h0, _⟩ | ⟨_, cur, h1, h2⟩
  · have := h.cap; omega
  · rw [cell_of_block h1, h2 i hi]
theorem WdAt.wfrozen (h : WdAt w b g c s) (i : Nat) (hi : 0 < s.W.length) : w.frozen? ⟨g, i, none⟩ = false := by
  rcases h.row with ⟨h0, _⟩ | ⟨_, cur, h1, h2⟩
  · have := h.cap; omega
  · exact frozen_of_block h1 i
theorem WdAt.ne (h : WdAt w b g c s) (hi : 0 < s.W.length) : b ≠ g := by
  rcases h.row with ⟨h0, _⟩ | ⟨h1, _⟩
  · have := h.cap; omega
  · exact h1
theorem WdAt.ltb (h : WdAt w b g c s) : b < w.heap.size := lt_of_block h.box
theorem WdAt.ltg (h : WdAt w b g c s) : g < w.heap.size := by
  rcases h.row with ⟨_, e⟩ | ⟨_, cur, h1, _⟩
  · rw [e]; exact h.ltb
  · exact lt_of_block h1
theorem WdAt.kept {S : Nat → Prop} (h : WdAt w b g c s) (k : Keeps S w w') (hb : ¬ S b) (hg : ¬ S g) : WdAt w' b g c s := by
  refine ⟨(k.block b h.ltb hb).trans h.box, ?_, h.cap, h.ok⟩
  rcases h.row with h1 | ⟨h0, cur, h1, h2⟩
  · exact .inl h1
  · exact .inr ⟨h0, cur, (k.block g (lt_of_block h1) hg).trans h1, h2⟩
theorem WdAt.setBox (h : WdAt w b g c s) (i : Nat) (n : Int) (s' : Wd) (hW : s'.W = s.W) (he : (#[.slice (adr g c) s.W.length c, .int .i64 s.g, .int .i64 s.p, .int .i64 s.f, .int .i64 s.c] : Array Value).setIfInBounds i (.int .i64 n) = #[.slice (adr g c) s.W.length c, .int .i64 s'.g, .int .i64 s'.p, .int .i64 s'.f, .int .i64 s'.c]) : WdAt (w.setCell ⟨b, i, none⟩ (.int .i64 n)) b g c s' := by
  refine ⟨?_, ?_, by rw [hW]; exact h.cap, by have q := h.ok; unfold Wd.Ok at q ⊢; rw [hW]; exact q⟩
  · rw [block_set h.box i _, he, hW]
  · rcases h.row with h1 | ⟨h0, cur, h1, h2⟩
    · exact .inl h1
    · exact .inr ⟨h0, cur, (Below.heap_setCell _ _ _ _ (Ne.symm h0)).trans h1, by rw [hW]; exact h2⟩
theorem WdAt.gets (h : WdAt w b g c s) (n : Int) : WdAt (w.setCell ⟨b, 1, none⟩ (.int .i64 n)) b g c { s with g := n } := h.setBox 1 n _ rfl rfl
theorem WdAt.puts (h : WdAt w b g c s) (n : Int) : WdAt (w.setCell ⟨b, 2, none⟩ (.int .i64 n)) b g c { s with p := n } := h.setBox 2 n _ rfl rfl
theorem WdAt.failAt (h : WdAt w b g c s) (n : Int) : WdAt (w.setCell ⟨b, 3, none⟩ (.int .i64 n)) b g c { s with f := n } := h.setBox 3 n _ rfl rfl
theorem WdAt.err (h : WdAt w b g c s) (n : Int) : WdAt (w.setCell ⟨b, 4, none⟩ (.int .i64 n)) b g c { s with c := n } := h.setBox 4 n _ rfl rfl
theorem WdAt.store (h : WdAt w b g c s) (i : Nat) {x : Int} (hx : isW x) (hi : i < s.W.length) : WdAt (w.setCell ⟨g, i, none⟩ (.int .u64 x)) b g c { s with W := s.W.set i x } := by
  rcases h.row with ⟨h0, _⟩ | ⟨hne, cur, h1, h2⟩
  · have := h.cap; omega
  refine ⟨by rw [List.length_set]; exact (Below.heap_setCell _ _ _ _ hne).trans h.box, .inr ⟨hne, _, block_set h1 i _, fun j hj => ?_⟩, by rw [List.length_set]; exact h.cap, ⟨fun y hy => ?_, by simpa using h.ok.2⟩⟩
  · rw [List.length_set] at hj
    have hj2 := h2 j hj
    have hsz : j < cur.size := (Array.getElem?_eq_some_iff.1 hj2).1
    rw [Array.getElem?_setIfInBounds]
    by_cases e : i = j
    · subst e
      simp [hsz, oat, hi]
    · simp only [e, if_false]
      rw [hj2]
      simp [oat, e]
  · rcases List.mem_or_eq_of_mem_set hy with h1 | h1
    · exact h.ok.1 y h1
    · rw [h1]; exact hx
theorem WdAt.drewN (h : WdAt w b g c s) (n : Nat) : WdAt (w.drewN n) b g c s := h.kept (S := fun _ => False) ((Keeps.refl _ w).drewN n) (fun f => f) (fun f => f)
theorem Keeps.sb {a : World} (h : Keeps (two b g) a w) (i : Nat) (v : Value) : Keeps (two b g) a (w.setCell ⟨b, i, none⟩ v) := h.setCell (p := ⟨b, i, none⟩) (.inr (.inl rfl)) v
theorem Keeps.sg {a : World} (h : Keeps (two b g) a w) (i : Nat) (v : Value) : Keeps (two b g) a (w.setCell ⟨g, i, none⟩ v) := h.setCell (p := ⟨g, i, none⟩) (.inr (.inr rfl)) v
theorem WdAt.like {X : World} (h : WdAt w b g c s) (e : X.heap = w.heap) : WdAt X b g c s := by
  refine ⟨by rw [e]; exact h.box, ?_, h.cap, h.ok⟩
  rcases h.row with h1 | ⟨h0, cur, h1, h2⟩
  · exact .inl h1
  · exact .inr ⟨h0, cur, by rw [e]; exact h1, h2⟩
end
theorem Keeps.like {S : Nat → Prop} {a w X : World} (k : Keeps S a w) (e1 : X.heap = w.heap) (e2 : X.os = w.os) (e3 : X.tape = w.tape) (e4 : X.output = w.output) : Keeps S a X :=
  ⟨e2.trans k.os, e3.trans k.tape, e4.trans k.output, by rw [e1]; exact k.size, fun i hi hs => by rw [e1]; exact k.block i hi hs⟩
theorem hid {p : Prop} (h : p) : Hid p := h

set_option maxHeartbeats 400000 in
theorem endOf_any (a : Int) (w : World) : Calls Try.prog 64 #[.int .u64 a] w fun e w' => e = .returned (.int .u64 (endA a)) ∧ w' = w := by
  go_enter Try.func64, Try.ntmps64
  go_wp2
  go_ret
  exact ⟨rfl, rfl⟩
set_option maxHeartbeats 400000 in
theorem headOf_any (a n : Int) (w : World) : Calls Try.prog 46 #[.int .u64 a, .int .u64 n] w fun e w' => e = .returned (.int .u64 (hdA a n)) ∧ w' = w := by
  go_enter Try.func46, Try.ntmps46
  go_wp2
  go_ret
  exact ⟨rfl, rfl⟩
set_option maxHeartbeats 1000000 in
theorem may_yes (t : Nat) (n : Int) (hm : mayN n) (w : World) : Calls Try.prog 45 #[.iface 24 (.pointer (some ⟨t, 0, none⟩)), .int .u64 n] w fun e w' => e = .returned (.int .i64 0) ∧ w' = w := by
  obtain ⟨h1, h2⟩ := hm
  go_enter Try.func45, Try.ntmps45
  go_wp2_with fail
  go_ret
  exact ⟨rfl, rfl⟩
set_option maxHeartbeats 1000000 in
theorem may_no (t : Nat) (n : Int) (hm : ¬ mayN n) (w : World) : Calls Try.prog 45 #[.iface 24 (.pointer (some ⟨t, 0, none⟩)), .int .u64 n] w fun e w' => e = .returned (.int .i64 2) ∧ w' = w := by
  unfold mayN at hm
  by_cases h1 : n < 1
  · clear hm
    go_enter Try.func45, Try.ntmps45
    go_wp2_with fail
    go_ret
    exact ⟨rfl, rfl⟩
  · have h2 : 16 < n := by omega
    have h3 : 1 ≤ n := by omega
    clear hm h1
    go_enter Try.func45, Try.ntmps45
    go_wp2_with fail
    go_ret
    exact ⟨rfl, rfl⟩
theorem meth_get (t : Nat) (w : World) : (method 284 24 (.pointer (some ⟨t, 0, none⟩)) "Get").run Try.prog w = .ok (119, .pointer (some ⟨t, 0, none⟩)) w := by kernel_rfl
theorem meth_put (t : Nat) (w : World) : (method 284 24 (.pointer (some ⟨t, 0, none⟩)) "Put").run Try.prog w = .ok (120, .pointer (some ⟨t, 0, none⟩)) w := by kernel_rfl
theorem nil_get (t : Nat) (w : World) : (nilAhead 284 24 (.pointer (some ⟨t, 0, none⟩)) "Get").run Try.prog w = .ok (some false) w := by kernel_rfl
theorem nil_put (t : Nat) (w : World) : (nilAhead 284 24 (.pointer (some ⟨t, 0, none⟩)) "Put").run Try.prog w = .ok (some false) w := by kernel_rfl
theorem get_isW {s : Wd} {a x e : Int} {s1 : Wd} (heq : s.get a = ((x, e), s1)) (h : s.Ok) : isW x := by
  have hq := (h.get a).2.1
  rw [heq] at hq
  exact hq

set_option maxHeartbeats 2000000 in
theorem fails_any {b g c : Nat} {s : Wd} {w : World} (h : WdAt w b g c s) :
    Calls Try.prog 121 #[.pointer (some ⟨b, 0, none⟩)] w fun e w' => e = .returned (.bool s.fl) ∧ ∃ n, w' = w.drewN n := by
  have c1 := h.cell1
  have c2 := h.cell2
  have c3 := h.cell3
  clear h
  by_cases h0 : 0 ≤ s.f
  · have hs : s.fl = decide (s.f ≤ iw (iw (s.g + s.p) - 1)) := by unfold Wd.fl; simp [h0]
    rw [hs]
    clear hs
    go_enter Try.func121, Try.ntmps121
    go_wp2_with fail
    go_quiet (fail)
    go_wp2_with fail
    go_ret
    exact ⟨rfl, _, rfl⟩
  · have hs : s.fl = false := by unfold Wd.fl; simp [h0]
    rw [hs]
    clear hs
    have h1 : decide (s.f < 0) = true := by simp; omega
    have h2 : decide (0 ≤ s.f) = false := by simp; omega
    have h3 : s.f < 0 := by omega
    clear h0
    go_enter Try.func121, Try.ntmps121
    go_wp2_with fail
    go_quiet (fail)
    go_wp2_with fail
    go_ret
    exact ⟨rfl, _, rfl⟩
end Go.Proofs.Ytalopkllldnipaa
