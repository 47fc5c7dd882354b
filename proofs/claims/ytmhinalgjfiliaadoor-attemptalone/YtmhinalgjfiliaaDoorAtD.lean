
/-
  An attempt begins: whether row and clock are there, and Begin. No statement of the seat is proved here.
-/
import Derived.Test.YtmhinalgjfiliaaDoorAtC
namespace Go.Proofs.YtmhinalgjfiliaaDoor
open Go.RowKit Go.Shelf

def zeroT : Array Value := #[.int .i64 0, .int .u64 0, .int .i64 0, .int .i64 0, .int .u64 0, .int .u64 0, .bool false, .int .i64 0]
theorem size_turn : (Tryd.prog.info? 39).map (·.size) = some 8 := by kernel_rfl
theorem turn_ret {fn : Func} {p u : Tmp} (h : fn.results = #[.cell p 39, .tmp u]) (tmps : Array Value) (w : World) (b : Nat) (old cs : Array Value) (hb : w.heap[b]? = some (.cells old 39 (0, 0))) (hs : cs.size = 8)
    (hp : tmps.getD p undef = .pointer (some ⟨b, 0, none⟩)) : (results fn tmps).run Tryd.prog (w.setRow b cs) = .ok (.tuple #[.agg cs, tmps.getD u undef]) (w.setRow b cs) := by
  rw [results_cell_tmp h, hp]
  simp [asAddr, run_loadVar_row (w.setRow b cs) b 39 39 cs (0, 0) _ (setRow_heap w b old cs _ _ hb) Tryd.underlying39 rfl (by rw [size_turn, hs]), Result.andThen]
theorem turn_ret3 {fn : Func} {t p u : Tmp} (h : fn.results = #[.tmp t, .cell p 39, .tmp u]) (tmps : Array Value) (w : World) (b : Nat) (old cs : Array Value) (hb : w.heap[b]? = some (.cells old 39 (0, 0))) (hs : cs.size = 8)
    (hp : tmps.getD p undef = .pointer (some ⟨b, 0, none⟩)) : (results fn tmps).run Tryd.prog (w.setRow b cs) = .ok (.tuple #[tmps.getD t undef, .agg cs, tmps.getD u undef]) (w.setRow b cs) := by
  rw [results_tct h, hp]
  simp [asAddr, run_loadVar_row (w.setRow b cs) b 39 39 cs (0, 0) _ (setRow_heap w b old cs _ _ hb) Tryd.underlying39 rfl (by rw [size_turn, hs]), Result.andThen]
theorem turn_ret1 {fn : Func} {p : Tmp} (h : fn.results = #[.cell p 39]) (tmps : Array Value) (w : World) (b : Nat) (old cs : Array Value) (hb : w.heap[b]? = some (.cells old 39 (0, 0))) (hs : cs.size = 8)
    (hp : tmps.getD p undef = .pointer (some ⟨b, 0, none⟩)) : (results fn tmps).run Tryd.prog (w.setRow b cs) = .ok (.agg cs) (w.setRow b cs) :=
  results_cell_row h tmps (w.setRow b cs) b 39 cs (0, 0) _ hp (setRow_heap w b old cs _ _ hb) Tryd.underlying39 rfl (by rw [size_turn, hs])
/-- A new block is written. -/
theorem Keeps.row {S : Nat → Prop} {w W : World} {b : Nat} (h : Keeps S w W) (hb : w.heap.size ≤ b) (cs : Array Value) : Keeps S w (W.setRow b cs) :=
  h.step (setRow_keeps' cs) (fun i hi e => by omega)

set_option maxHeartbeats 400000 in
theorem ccopy_at (p b c : Nat) (x st : Int) (w : World) (h : C.ClkAt w p b c x st) :
    Calls Tryd.prog 44 #[.pointer (some ⟨p, 0, none⟩)] w fun e w' => (∃ q, e = .returned (.pointer (some ⟨q, 0, none⟩))) ∧ Keeps (fun _ => False) w w' := by
  have c0 := h.cell0
  have c1 := h.cell1
  obtain ⟨n, r⟩ := h.row
  have HC : Hid (∀ W0, Like W0 w → Calls Tryd.prog 58 #[.pointer (some ⟨b, 0, none⟩)] W0 fun e w' => ∃ q, e = .returned (.pointer (some ⟨q, 0, none⟩)) ∧ (w'.cell? ⟨p, 0, none⟩ = some (.pointer (some ⟨b, 0, none⟩)) ∧ w'.cell? ⟨p, 1, none⟩ = some (.int .i64 st)) ∧ Hid (Keeps (fun _ => False) w w')) := fun W0 hl => by
    have k0 := hl.keeps (Keeps.refl (fun _ => False) w)
    refine (C.copy_at b c [x] n W0 (r.kept k0 (fun f => f) (fun f => f))).mono fun e w' ⟨h1, h2, h3⟩ => ⟨_, h1, ?_, k0.trans h3⟩
    have := h.kept (k0.trans h3) (fun _ _ f => f)
    exact ⟨this.cell0, this.cell1⟩
  have hm := C.cmade_at p b w c0
  have hS0 : w.cell? ⟨p, 0, none⟩ = some (.pointer (some ⟨b, 0, none⟩)) ∧ w.cell? ⟨p, 1, none⟩ = some (.int .i64 st) := ⟨c0, c1⟩
  clear h r
  go_enter Tryd.func44, Tryd.ntmps44
  go_wp2_with (go_at_call 41; refine hm.mono ?_; rintro e w' ⟨rfl, hw'⟩; replace hw' := hw'.symm; subst hw')
  go_region_held3 (fun W : World => W.cell? ⟨p, 0, none⟩ = some (.pointer (some ⟨b, 0, none⟩)) ∧ W.cell? ⟨p, 1, none⟩ = some (.int .i64 st)) (first | assumption | (exact hS0) | go_keep)
    ((go_at_call 58; refine (HC.out _ (by exact ⟨rfl, rfl, rfl, rfl⟩)).mono ?_; rintro e w1 ⟨q, rfl, hS1, k1⟩))
  go_wp2_with fail
  go_ret
  exact ⟨⟨_, rfl⟩, k1.out.alloc _⟩

set_option maxHeartbeats 400000 in
theorem there_yes (R : Sh) (ws : List Int) (x : Int) (w : World) (h : ShAt w R ws x) :
    Calls Tryd.prog 23 #[.pointer (some ⟨R.rb, 0, none⟩), .pointer (some ⟨R.ck, 0, none⟩)] w fun e w' => e = .returned (.bool true) ∧ Keeps (fun _ => False) w w' := by
  obtain ⟨n, r⟩ := h.row
  obtain ⟨st, c⟩ := h.clk
  have hl := C.len_at R.rb _ _ _ w r.cell0
  have hc := ccopy_at _ _ _ _ _ w c
  have hp : (0 : Int) < (ws.length : Int) := by have := r.pos; omega
  clear r c
  go_enter Tryd.func23, Tryd.ntmps23
  go_wp2_with (first | (go_at_call 43; refine hl.mono ?_; rintro e w' ⟨rfl, hw'⟩; replace hw' := hw'.symm; subst hw') | (go_at_call 44; refine hc.mono ?_; rintro e w1 ⟨⟨q, rfl⟩, k1⟩))
  go_ret
  exact ⟨rfl, k1⟩

set_option maxRecDepth 100000 in
set_option maxHeartbeats 1000000 in
theorem begin_even (R : Sh) (ws : List Int) (x : Int) (w : World) (h : ShAt w R ws x) (he : x % 2 = 0) (h0 : 0 < w.heap.size) :
    Calls Tryd.prog 10 #[.pointer (some ⟨R.rb, 0, none⟩), .pointer (some ⟨R.ck, 0, none⟩)] w fun e w' => ∃ a rr dr Or Od, e = .returned (.tuple #[.pointer (some ⟨a, 0, none⟩), turnV 6 0 1 0 x false, .int .i64 0]) ∧
      AttX w' a R rr dr [] Or Od (sd0 x) ∧ (∀ q, AOwn a Or Od q → w.heap.size ≤ q) ∧ ShAt w' R ws x ∧ Keeps R.own w w' := by
  have HT : Hid (∀ o, Calls Tryd.prog 23 #[.pointer (some ⟨R.rb, 0, none⟩), .pointer (some ⟨R.ck, 0, none⟩)] (w.alloc o) fun e W => e = .returned (.bool true) ∧ W.heap[w.heap.size]? = some o ∧ Hid (ShAt W R ws x ∧ Keeps (fun _ => False) w W)) := fun o =>
    (there_yes R ws x _ (h.kept ((Keeps.refl (fun _ => False) w).alloc o) (fun _ _ f => f))).mono fun e W ⟨h1, h2⟩ => ⟨h1, h2.old (alloc_block w o) (fun f => f), (h.kept (((Keeps.refl (fun _ => False) w).alloc o).trans h2) (fun _ _ f => f)), ((Keeps.refl (fun _ => False) w).alloc o).trans h2⟩
  have HL : Hid (∀ W o, W.heap[w.heap.size]? = some o → ShAt W R ws x → Keeps (fun _ => False) w W → Calls Tryd.prog 22 #[.pointer (some ⟨R.ck, 0, none⟩)] W fun e W' => e = .returned (.tuple #[.int .u64 x, .int .i64 0]) ∧ W'.heap[w.heap.size]? = some o ∧ Hid (ShAt W' R ws x ∧ Keeps R.own w W')) := fun W o hb hs hk => by
    obtain ⟨st, c⟩ := hs.clk
    refine (C.cload_at _ _ _ _ _ W c).mono fun e W' ⟨h1, h2, h3⟩ => ⟨h1, h3.old hb (fun e => ?_), hs.clk' h2 h3, (hk.mono (fun _ _ f => f.elim)).trans (h3.mono (fun q _ e => .inr (.inr e)))⟩
    have := h.lt (q := w.heap.size) (.inr (.inr e))
    omega
  have HO := fun W => C.open_any x h.lo h.hi W
  rw [show decide (x % 2 = 0) = true from by simp [he]] at HO
  have HD : Hid (∀ W o, W.heap[w.heap.size]? = some o → ShAt W R ws x → Keeps R.own w W → Calls Tryd.prog 25 #[.agg (stV (sd0 x) (.slice none 0 0) (.slice none 0 0)), .pointer (some ⟨R.rb, 0, none⟩), .pointer (some ⟨R.ck, 0, none⟩)] W fun e W' => ∃ a, e = .returned (.pointer (some ⟨a, 0, none⟩)) ∧ W'.heap[w.heap.size]? = some o ∧
      Hid (∃ rr dr Or Od, AttX W' a R rr dr [] Or Od (sd0 x) ∧ (∀ q, AOwn a Or Od q → w.heap.size + 1 ≤ q) ∧ ShAt W' R ws x ∧ Keeps R.own w W')) := fun W o hb hs hk => by
    have hlt := lt_of_block hb
    refine (laid_none (sd0 x) R.rb R.ck W (by omega) rfl rfl).mono fun e W' ⟨a, rr, dr, Or, Od, h1, h2, h3, h4⟩ => ⟨a, h1, h4.old hb (fun f => f), rr, dr, Or, Od, h2 R rfl rfl, fun q hq => by have := h3 q hq; omega, hs.kept h4 (fun _ _ f => f), hk.trans (h4.mono (fun _ _ f => f.elim))⟩
  have HG : Hid (∀ W o, W.heap[w.heap.size]? = some o → Calls Tryd.prog 26 #[.int .i64 6, .int .i64 1, .int .u64 x] W fun e W' => e = .returned (turnV 6 0 1 0 x false) ∧ W'.heap[w.heap.size]? = some o ∧ Hid (Keeps (fun _ => False) W W')) := fun W o hb =>
    (told_any 6 1 x W).mono fun e W' ⟨h1, h2⟩ => ⟨h1, h2.old hb (fun f => f), h2⟩
  have HLT : Hid (∀ q, R.own q → q < w.heap.size) := fun q hq => h.lt hq
  clear h
  unfold stV sd0 at HD
  unfold turnV at HG
  go_enter Tryd.func10, Tryd.ntmps10
  go_wp2_with fail
  refine (HT.out _).mono ?_
  rintro e W1 ⟨rfl, b1, h1⟩
  have HL1 := HL.out W1 _ b1 h1.out.1 h1.out.2
  clear HT HL b1
  go_wp2_with fail
  refine HL1.mono ?_
  rintro e W2 ⟨rfl, b2, h2⟩
  have HD2 := HD.out W2 _ b2 h2.out.1 h2.out.2
  clear HL1 HD b2 h1
  go_wp2_with (go_at_call 24; refine (HO _).mono ?_; rintro e w' ⟨rfl, hw'⟩; replace hw' := hw'.symm; subst hw')
  refine HD2.mono ?_
  rintro e W3 ⟨a, rfl, b3, h3⟩
  have HG3 := HG.out W3 _ b3
  clear HD2 HG b3 h2 HO
  go_wp2_with fail
  refine HG3.mono ?_
  rintro e W4 ⟨rfl, b4, h4⟩
  clear HG3
  go_wp2_with (refine wpList_store_row' rfl 39 _ _ rfl w.heap.size _ rfl rfl 39 _ b4 size_turn rfl (by simp [Value.oneCell']) ?_)
  refine bodyPost_ret (turn_ret3 rfl _ _ w.heap.size _ _ b4 rfl rfl) rfl ?_
  obtain ⟨rr, dr, Or, Od, q1, q2, q3, q4⟩ := h3.out
  have k4 := h4.out
  have k5 : Keeps (fun q => q = w.heap.size) W3 (W4.setRow w.heap.size #[.int .i64 6, .int .u64 0, .int .i64 0, .int .i64 1, .int .u64 0, .int .u64 x, .bool false, .int .i64 0]) := (k4.mono (fun _ _ f => f.elim)).trans (setRow_keeps' _)
  refine ⟨a, rr, dr, Or, Od, rfl, q1.kept k5 (fun q hq e => by have := q2 q hq; omega), fun q hq => by have := q2 q hq; omega, q3.kept k5 (fun q hq e => by have := HLT.out q hq; omega), q4.step k5 (fun i hi e => by omega)⟩
end Go.Proofs.YtmhinalgjfiliaaDoor
