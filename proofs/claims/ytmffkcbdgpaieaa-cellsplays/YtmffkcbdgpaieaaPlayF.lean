/-
  Walks of the document's own Differ, and of the program's Differ and Same where the second row is not there. No statement of the seat is proved here.
-/
import Derived.Test.YtmffkcbdgpaieaaPlayE
namespace Go.Proofs.Ytmffkcbdgpaieaa
open Go.RowKit

set_option maxHeartbeats 400000 in
theorem rdiffer_nil1 (v : Option Addr) (w : World) : Calls Try.prog 40 #[.pointer none, .pointer v] w fun e w' => e = .returned (.tuple #[.slice none 0 0, .int .i64 1]) ∧ w' = w := by
  go_enter Try.func40, Try.ntmps40
  go_wp2
  go_ret2
  exact ⟨rfl, rfl⟩
set_option maxHeartbeats 400000 in
theorem rdiffer_nil2 (b : Nat) (w : World) : Calls Try.prog 40 #[.pointer (some ⟨b, 0, none⟩), .pointer none] w fun e w' => e = .returned (.tuple #[.slice none 0 0, .int .i64 1]) ∧ w' = w := by
  go_enter Try.func40, Try.ntmps40
  go_wp2
  go_ret2
  exact ⟨rfl, rfl⟩
set_option maxHeartbeats 400000 in
theorem rdiffer_len (ba ca bb cb capa capb : Nat) (ra rb : List Value) (wa wb : List Int) (na nb : Int) (w : World) (ha : RefAt w ba ca capa ra wa na) (hb : RefAt w bb cb capb rb wb nb) (hl : ¬ wb.length = wa.length) :
    Calls Try.prog 40 #[.pointer (some ⟨ba, 0, none⟩), .pointer (some ⟨bb, 0, none⟩)] w fun e w' => e = .returned (.tuple #[.slice none 0 0, .int .i64 2]) ∧ Drew w w' := by
  have a0 := ha.cell0
  have b0 := hb.cell0
  have hne : ((wa.length : Int) != (wb.length : Int)) = true := by simp; omega
  go_enter Try.func40, Try.ntmps40
  go_wp2
  go_quiet (fail)
  go_wp2
  go_ret2
  exact ⟨rfl, _, rfl⟩

/-- One pair more. -/
theorem append_pair (w : World) (base : Nat) (v : Value) (l : List (Nat × Int)) (hown : w.ownsRow base 58 2 v l.length (cellsV l)) (x : Nat × Int) (hl : l.length ≤ 65536) (hbase : base ≤ w.heap.size) :
    ∃ g cap w', (Builtin.append_ #[49, 49] 49 #[v, .slice (some ⟨w.heap.size, 0, none⟩) 1 1]).run Try.prog (w.alloc (.cells #[.int .u64 (x.1 : Nat), .int .u64 x.2] 58)) = .ok (.slice (some ⟨g, 0, none⟩) (l.length + 1) cap) w' ∧ w'.ownsRow base 58 2 (.slice (some ⟨g, 0, none⟩) (l.length + 1) cap) (l ++ [x]).length (cellsV (l ++ [x])) ∧ ∃ r, w.grownBy w' r ∧ ∀ k, r = some k → base ≤ k := by
  obtain ⟨i0, hi, hz0, hz1, hzb⟩ := info_parts info58
  obtain ⟨v', w', h1, h2, h3, _⟩ := run_append_own (P := Try.prog) (w.alloc (.cells #[.int .u64 (x.1 : Nat), .int .u64 x.2] 58)) base 49 49 58 i0 (.agg #[.int .u64 0, .int .u64 0]) 2 16 Try.underlying49 hi hz0 hz1 hzb rfl (by decide) v l.length (cellsV l) (hown.alloc _) ⟨w.heap.size, 0, none⟩ 1 1 [.int .u64 (x.1 : Nat), .int .u64 x.2] rfl
    (fun j u hj => by
      rw [addr_add, Nat.zero_add, cell_of_block (alloc_block w _)]
      simpa using hj) (by simp [Value.oneCell']) (by simp only [maxLen]; omega) (by omega) (by simp; omega)
  obtain ⟨g, cap, rfl⟩ := ownsRow_succ h2
  refine ⟨g, cap, w', h1, by rw [List.length_append, cellsV_snoc]; exact h2, v.ownBlock, ⟨h3.os, h3.tape, h3.output, by have := h3.size; simp at this; omega, fun k hk hr => (h3.block k (by simp; omega) hr).trans (Below.heap_alloc _ _ _ hk)⟩, fun k hk => (hown.lt k hk).1⟩

/-- Where they differ is handed back in new memory. -/
def Differs (w : World) (l : List (Nat × Int)) (e : Ending) (w' : World) : Prop := ∃ v, e = .returned (.tuple #[v, .int .i64 0]) ∧ w'.ownsRow w.heap.size 58 2 v l.length (cellsV l) ∧ Keeps (fun _ => False) w w'

set_option maxRecDepth 100000 in
set_option maxHeartbeats 1000000 in
theorem rdiffer_eq (ba ca bb cb capa capb : Nat) (ra rb : List Value) (wa wb : List Int) (na nb : Int) (w : World) (ha : RefAt w ba ca capa ra wa na) (hb : RefAt w bb cb capb rb wb nb) (hl : wb.length = wa.length) :
    Calls Try.prog 40 #[.pointer (some ⟨ba, 0, none⟩), .pointer (some ⟨bb, 0, none⟩)] w (Differs w (dl wa wb wb.length)) := by
  have a0 := ha.cell0
  have b0 := hb.cell0
  have hle := hb.le
  have hla : wa.length ≤ 65536 := ha.le
  have hne : ((wa.length : Int) != (wb.length : Int)) = false := by simp [hl]
  have HL : Hid (wb.length = wa.length) := hl
  clear hl
  go_enter Try.func40, Try.ntmps40
  go_wp2
  go_quiet (fail)
  go_wp2
  go_loopw [6, 7] (fun v i wr => ∃ k : Nat, k ≤ wb.length ∧ i = .int .i64 k ∧ wr.ownsRow w.heap.size 58 2 v (dl wa wb k).length (cellsV (dl wa wb k)) ∧ Keeps (fun _ => False) w wr) (fun _ i _ => wb.length - (intOf i).toNat)
  case atStart => exact ⟨0, Nat.zero_le _, rfl, World.ownsRow_nil _ _ _ _, (Keeps.refl _ w).drewN _⟩
  case round =>
    obtain ⟨k, hk, rfl, ho, kk⟩ := hrel
    have ha1 := ha.kept kk (fun f => f) (fun f => f)
    have hb1 := hb.kept kk (fun f => f) (fun f => f)
    have a1 := ha1.cell0
    have b1 := hb1.cell0
    by_cases hlt : k < wb.length
    · have hlt' : (k : Int) < (wa.length : Int) := by have := HL.out; omega
      have wb1 := hb1.wcell k hlt
      have wa1 := ha1.wcell k (by have := HL.out; omega)
      have hdl := dl_length wa wb k
      have HST : Hid (dl wa wb (k + 1) = if wb[k]?.getD 0 == wa[k]?.getD 0 then dl wa wb k else dl wa wb k ++ [(k, wb[k]?.getD 0)]) := rfl
      have hz := kk.size
      generalize dl wa wb k = L at ho hdl HST
      generalize wb[k]?.getD 0 = x at wb1 HST
      generalize wa[k]?.getD 0 = z at wa1 HST
      clear ha1 hb1
      cases hd : (x == z)
      · rw [hd] at HST
        replace HST : Hid (dl wa wb (k + 1) = L ++ [(k, x)]) := HST
        have hd1 : (z != x) = true := by simp at hd ⊢; omega
        go_wp2
        go_quiet (fail)
        obtain ⟨g, cap, w', hr, ho', r, hg, hrb⟩ := append_pair (wr.drewN nq) w.heap.size u6 L ho (k, x) (by omega) (by simp [World.drewN]; omega)
        have k2 := (kk.drewN nq).grown hg (fun y hy => .inl (hrb y hy))
        clear hg
        go_wp2_with (at_builtin; refine wpList_append_run rfl _ _ 49 rfl _ _ _ _ rfl rfl hr ?_; clear hr)
        go_roundw
        case rel => exact ⟨k + 1, by omega, by go_num, by rw [HST.out]; exact ho', k2⟩
        case measure => simp [intOf]; omega
      · rw [hd] at HST
        replace HST : Hid (dl wa wb (k + 1) = L) := HST
        have hd1 : (z != x) = false := by simp at hd ⊢; omega
        go_wp2
        go_quiet (fail)
        go_wp2
        go_roundw
        case rel => exact ⟨k + 1, by omega, by go_num, by rw [HST.out]; exact ho, kk.drewN _⟩
        case measure => simp [intOf]; omega
    · obtain rfl : k = wb.length := by omega
      have hge : (wa.length : Int) ≤ (wb.length : Int) := by have := HL.out; omega
      go_wp2
      go_ret2
      exact ⟨_, rfl, ho, kk⟩

set_option maxHeartbeats 400000 in
theorem differ_none2 (b c : Nat) (ws : List Int) (n : Int) (w : World) (h : RowAt w 74 36 b c ws n) : Calls Try.prog 31 #[.pointer (some ⟨b, 0, none⟩), .pointer none] w fun e w' => e = .returned (.tuple #[.slice none 0 0, .int .i64 1]) ∧ w' = w := by
  have c0 := h.cell0
  have hp := h.pos
  have hd : decide (0 < ws.length) = true := by simp; omega
  go_enter Try.func31, Try.ntmps31
  go_wp2_with fail
  refine (made_at b _ ws.length ws.length _ c0).mono ?_
  rintro e w' ⟨rfl, rfl⟩
  go_wp2_with fail
  refine (made_nil _).mono ?_
  rintro e w' ⟨rfl, rfl⟩
  go_wp2_with fail
  go_ret2
  exact ⟨rfl, rfl⟩

set_option maxHeartbeats 400000 in
theorem same_none2 (b c : Nat) (ws : List Int) (n : Int) (w : World) (h : RowAt w 74 36 b c ws n) : Calls Try.prog 32 #[.pointer (some ⟨b, 0, none⟩), .pointer none] w fun e w' => e = .returned (.bool false) ∧ Below w.heap.size w w' := by
  have c0 := (h.alloc (.cells #[.bool false] 4)).cell0
  have hp := h.pos
  have hd : decide (0 < ws.length) = true := by simp; omega
  have k0 : Below w.heap.size w (w.alloc (.cells #[.bool false] 4)) := (Below.refl _ w).alloc (Nat.le_refl _) _
  go_enter Try.func32, Try.ntmps32
  go_wp2_with fail
  refine (made_at b _ ws.length ws.length _ c0).mono ?_
  rintro e w' ⟨rfl, rfl⟩
  go_wp2_with fail
  refine (made_nil _).mono ?_
  rintro e w' ⟨rfl, rfl⟩
  go_wp2_with fail
  refine bodyPost_ret (v := .bool false) (by simp [results, Try.results32, go_sem]) rfl ⟨rfl, ?_⟩
  exact k0

end Go.Proofs.Ytmffkcbdgpaieaa
