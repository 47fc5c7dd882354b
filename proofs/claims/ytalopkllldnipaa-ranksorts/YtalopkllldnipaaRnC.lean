
/- do, kind by kind, over any contract of its call (layer 24). No statement of the seat is proved here. -/
import Derived.Test.YtalopkllldnipaaRnB
namespace Go.Proofs.Ytalopkllldnipaa
open Go.RowKit

/-- What a call of any kind answers. -/
def rpA (n : Nat) (x : Int) (h : Bool) (wd : Int) (lv : Value) (e : Int) : Array Value := #[.float .f64 n, .int .u64 x, .bool h, .int .u64 wd, lv, .int .i64 e]
theorem size_reply : (Try.prog.info? 43).map (·.size) = some 6 := by kernel_rfl
theorem reply_ret {fn : Func} {p : Tmp} (h : fn.results = #[.cell p 43]) (tmps : Array Value) (w : World) (q : Nat) (cs : Array Value) (hs : cs.size = 6) (hb : Blk w q 43 cs)
    (hp : tmps.getD p undef = .pointer (some ⟨q, 0, none⟩)) : (results fn tmps).run Try.prog w = .ok (.agg cs) w :=
  results_cell_row h tmps w q 43 cs (0, 0) _ hp hb Try.underlying43 rfl (by rw [size_reply, hs])
def stV (kd on bits wd : Int) : Value := .agg #[.int .i64 kd, .int .i64 on, .int .u64 bits, .int .u64 wd]
/-- The world in which do makes its call. -/
def doX (w : World) (kd on bits wd : Int) : World := (((w.alloc (.cells #[.int .i64 kd, .int .i64 on, .int .u64 bits, .int .u64 wd] 33)).alloc (.cells #[.float .f64 0, .int .u64 0, .bool false, .int .u64 0, .slice none 0 0, .int .i64 0] 43)).alloc (.cells #[.float .f64 0, .int .u64 0, .bool false, .int .u64 0, .slice none 0 0, .int .i64 0] 43))
/-- do's boxes: the step, and two answers. -/
structure DoAt (w X : World) (kd on bits wd : Int) : Prop where
  st : Blk X w.heap.size 33 #[.int .i64 kd, .int .i64 on, .int .u64 bits, .int .u64 wd]
  a : Blk X (w.heap.size + 1) 43 (rpA 0 0 false 0 (.slice none 0 0) 0)
  b : Blk X (w.heap.size + 1 + 1) 43 (rpA 0 0 false 0 (.slice none 0 0) 0)
theorem doX_at (w : World) (kd on bits wd : Int) : DoAt w (doX w kd on bits wd) kd on bits wd ∧ Keeps (fun _ => False) w (doX w kd on bits wd) := by
  unfold doX
  have e1 : (w.alloc (.cells #[.int .i64 kd, .int .i64 on, .int .u64 bits, .int .u64 wd] 33)).heap.size = w.heap.size + 1 := by simp
  have e2 : ((w.alloc (.cells #[.int .i64 kd, .int .i64 on, .int .u64 bits, .int .u64 wd] 33)).alloc (.cells #[.float .f64 0, .int .u64 0, .bool false, .int .u64 0, .slice none 0 0, .int .i64 0] 43)).heap.size = w.heap.size + 1 + 1 := by simp
  refine ⟨⟨((blk_new w _ _).kept (keeps_new _ _) (fun f => f)).kept (keeps_new _ _) (fun f => f), ?_, ?_⟩, ((keeps_new w _).alloc _).alloc _⟩
  · have q := (blk_new (w.alloc (.cells #[.int .i64 kd, .int .i64 on, .int .u64 bits, .int .u64 wd] 33)) 43 #[.float .f64 0, .int .u64 0, .bool false, .int .u64 0, .slice none 0 0, .int .i64 0]).kept (keeps_new _ (.cells #[.float .f64 0, .int .u64 0, .bool false, .int .u64 0, .slice none 0 0, .int .i64 0] 43)) (fun f => f)
    rw [e1] at q
    exact q
  · have q := blk_new ((w.alloc (.cells #[.int .i64 kd, .int .i64 on, .int .u64 bits, .int .u64 wd] 33)).alloc (.cells #[.float .f64 0, .int .u64 0, .bool false, .int .u64 0, .slice none 0 0, .int .i64 0] 43)) 43 #[.float .f64 0, .int .u64 0, .bool false, .int .u64 0, .slice none 0 0, .int .i64 0]
    rw [e2] at q
    exact q
theorem DoAt.kept {S : Nat → Prop} {w X Y : World} {kd on bits wd : Int} (h : DoAt w X kd on bits wd) (k : Keeps S X Y) (hS : ∀ i, S i → i < w.heap.size) : DoAt w Y kd on bits wd :=
  ⟨h.st.kept k (fun f => by have := hS _ f; omega), h.a.kept k (fun f => by have := hS _ f; omega), h.b.kept k (fun f => by have := hS _ f; omega)⟩
theorem Blk.set6 {w : World} {q : Nat} {ty : TypeId} {n0 n : Nat} {x0 x : Int} {h0 h : Bool} {u0 u : Int} {l0 l : Value} {e0 e : Int} (hb : Blk w q ty (rpA n0 x0 h0 u0 l0 e0)) : Blk ((((((w.setCell ⟨q, 0, none⟩ (.float .f64 n)).setCell ⟨q, 1, none⟩ (.int .u64 x)).setCell ⟨q, 2, none⟩ (.bool h)).setCell ⟨q, 3, none⟩ (.int .u64 u)).setCell ⟨q, 4, none⟩ l).setCell ⟨q, 5, none⟩ (.int .i64 e)) q ty (rpA n x h u l e) :=
  (((((hb.set 0 _).set 1 _).set 2 _).set 3 _).set 4 _).set 5 _
theorem keeps_set6 (w : World) (q : Nat) (a b c d e f : Value) : Keeps (fun k => k = q) w ((((((w.setCell ⟨q, 0, none⟩ a).setCell ⟨q, 1, none⟩ b).setCell ⟨q, 2, none⟩ c).setCell ⟨q, 3, none⟩ d).setCell ⟨q, 4, none⟩ e).setCell ⟨q, 5, none⟩ f) :=
  (((((keeps_set w q 0 a).trans (keeps_set _ q 1 b)).trans (keeps_set _ q 2 c)).trans (keeps_set _ q 3 d)).trans (keeps_set _ q 4 e)).trans (keeps_set _ q 5 f)
/-- What do does behind its call: its own boxes alone. -/
def doS (w : World) (i : Nat) : Prop := w.heap.size ≤ i ∧ i ≤ w.heap.size + 1 + 1
set_option maxRecDepth 100000 in
set_option maxHeartbeats 4000000 in
theorem do_kind1 {tv : Value} {a h o on bits wd : Int} {w : World} (P : Int → World → Prop) (C : ∀ X : World, X.heap = (doX w 1 on bits wd).heap ∧ X.os = (doX w 1 on bits wd).os ∧ X.tape = (doX w 1 on bits wd).tape ∧ X.output = (doX w 1 on bits wd).output → Calls Try.prog 24 #[tv, .int .u64 a, .int .u64 h, .float .f64 bits.toNat, .int .u64 wd] X fun r w' => ∃ e, r = .returned (.int .i64 e) ∧ P e w' ∧ DoAt w w' 1 on bits wd) :
    Calls Try.prog 11 #[tv, .int .u64 a, .int .u64 h, .int .u64 o, stV 1 on bits wd] w fun r w' => ∃ e w1, r = .returned (.agg (rpA 0 0 false 0 (.slice none 0 0) e)) ∧ P e w1 ∧ Keeps (doS w) w1 w' := by
  have HC : Hid (∀ X : World, X.heap = (((w.alloc (.cells #[.int .i64 1, .int .i64 on, .int .u64 bits, .int .u64 wd] 33)).alloc (.cells #[.float .f64 0, .int .u64 0, .bool false, .int .u64 0, .slice none 0 0, .int .i64 0] 43)).alloc (.cells #[.float .f64 0, .int .u64 0, .bool false, .int .u64 0, .slice none 0 0, .int .i64 0] 43)).heap ∧ X.os = (((w.alloc (.cells #[.int .i64 1, .int .i64 on, .int .u64 bits, .int .u64 wd] 33)).alloc (.cells #[.float .f64 0, .int .u64 0, .bool false, .int .u64 0, .slice none 0 0, .int .i64 0] 43)).alloc (.cells #[.float .f64 0, .int .u64 0, .bool false, .int .u64 0, .slice none 0 0, .int .i64 0] 43)).os ∧ X.tape = (((w.alloc (.cells #[.int .i64 1, .int .i64 on, .int .u64 bits, .int .u64 wd] 33)).alloc (.cells #[.float .f64 0, .int .u64 0, .bool false, .int .u64 0, .slice none 0 0, .int .i64 0] 43)).alloc (.cells #[.float .f64 0, .int .u64 0, .bool false, .int .u64 0, .slice none 0 0, .int .i64 0] 43)).tape ∧ X.output = (((w.alloc (.cells #[.int .i64 1, .int .i64 on, .int .u64 bits, .int .u64 wd] 33)).alloc (.cells #[.float .f64 0, .int .u64 0, .bool false, .int .u64 0, .slice none 0 0, .int .i64 0] 43)).alloc (.cells #[.float .f64 0, .int .u64 0, .bool false, .int .u64 0, .slice none 0 0, .int .i64 0] 43)).output → Calls Try.prog 24 #[tv, .int .u64 a, .int .u64 h, .float .f64 bits.toNat, .int .u64 wd] X fun r w' => ∃ e, r = .returned (.int .i64 e) ∧ Hid (P e w' ∧ DoAt w w' 1 on bits wd) ∧ w'.cell? ⟨w.heap.size, 2, none⟩ = some (.int .u64 bits) ∧ w'.cell? ⟨w.heap.size, 3, none⟩ = some (.int .u64 wd) ∧ w'.cell? ⟨w.heap.size + 1 + 1, 5, none⟩ = some (.int .i64 0) ∧ w'.frozen? ⟨w.heap.size + 1 + 1, 5, none⟩ = false) := hid (fun X hX => (C X hX).mono fun r w' ⟨e, h1, h2, h3⟩ => ⟨e, h1, hid ⟨h2, h3⟩, h3.st.cell rfl, h3.st.cell rfl, h3.b.cell rfl, h3.b.frozen 5⟩)
  have hS : (((w.alloc (.cells #[.int .i64 1, .int .i64 on, .int .u64 bits, .int .u64 wd] 33)).alloc (.cells #[.float .f64 0, .int .u64 0, .bool false, .int .u64 0, .slice none 0 0, .int .i64 0] 43)).alloc (.cells #[.float .f64 0, .int .u64 0, .bool false, .int .u64 0, .slice none 0 0, .int .i64 0] 43)).cell? ⟨w.heap.size, 2, none⟩ = some (.int .u64 bits) ∧ (((w.alloc (.cells #[.int .i64 1, .int .i64 on, .int .u64 bits, .int .u64 wd] 33)).alloc (.cells #[.float .f64 0, .int .u64 0, .bool false, .int .u64 0, .slice none 0 0, .int .i64 0] 43)).alloc (.cells #[.float .f64 0, .int .u64 0, .bool false, .int .u64 0, .slice none 0 0, .int .i64 0] 43)).cell? ⟨w.heap.size, 3, none⟩ = some (.int .u64 wd) := ⟨(doX_at w 1 on bits wd).1.st.cell rfl, (doX_at w 1 on bits wd).1.st.cell rfl⟩
  unfold stV
  clear C
  have n02 : w.heap.size ≠ w.heap.size + 1 + 1 := by omega
  go_enter Try.func11, Try.ntmps11
  go_wp2_with fail
  go_region_held3 (fun W : World => W.cell? ⟨w.heap.size, 2, none⟩ = some (.int .u64 bits) ∧ W.cell? ⟨w.heap.size, 3, none⟩ = some (.int .u64 wd)) (first | assumption | (exact hS) | (exact ⟨k2, k3⟩) | (exact ⟨by simp [cell_other n02, k2], by simp [cell_other n02, k3]⟩) | go_keep) ((go_at_call 24; refine (HC.out _ (by exact ⟨rfl, rfl, rfl, rfl⟩)).mono ?_; rintro e_ w1 ⟨e, rfl, hh, k2, k3, c5, f5⟩))
  have hP := hh.out.1
  have hD := hh.out.2
  clear hh hS n02 k2 k3
  have HY : Hid (∃ Y, Y = (w1.setCell ⟨w.heap.size + 1 + 1, 5, none⟩ (.int .i64 e)) ∧ Blk Y (w.heap.size + 1 + 1) 43 (rpA 0 0 false 0 (.slice none 0 0) e) ∧ Blk Y (w.heap.size + 1) 43 (rpA 0 0 false 0 (.slice none 0 0) 0) ∧ Keeps (fun i => i = w.heap.size + 1 + 1) w1 Y) := hid ⟨_, rfl, (hD.b.set 5 (.int .i64 e)), hD.a.kept (keeps_set w1 (w.heap.size + 1 + 1) 5 (.int .i64 e)) (by omega), (keeps_set w1 (w.heap.size + 1 + 1) 5 (.int .i64 e))⟩
  obtain ⟨Y, HY⟩ : ∃ Y, Hid (Y = (w1.setCell ⟨w.heap.size + 1 + 1, 5, none⟩ (.int .i64 e)) ∧ Blk Y (w.heap.size + 1 + 1) 43 (rpA 0 0 false 0 (.slice none 0 0) e) ∧ Blk Y (w.heap.size + 1) 43 (rpA 0 0 false 0 (.slice none 0 0) 0) ∧ Keeps (fun i => i = w.heap.size + 1 + 1) w1 Y) := by obtain ⟨Y, h⟩ := HY.out; exact ⟨Y, hid h⟩
  have b0 : Y.cell? ⟨w.heap.size + 1 + 1, 0, none⟩ = some (.float .f64 0) := HY.out.2.1.cell rfl
  have b1 : Y.cell? ⟨w.heap.size + 1 + 1, 1, none⟩ = some (.int .u64 0) := HY.out.2.1.cell rfl
  have b2 : Y.cell? ⟨w.heap.size + 1 + 1, 2, none⟩ = some (.bool false) := HY.out.2.1.cell rfl
  have b3 : Y.cell? ⟨w.heap.size + 1 + 1, 3, none⟩ = some (.int .u64 0) := HY.out.2.1.cell rfl
  have b4 : Y.cell? ⟨w.heap.size + 1 + 1, 4, none⟩ = some (.slice none 0 0) := HY.out.2.1.cell rfl
  have b5 : Y.cell? ⟨w.heap.size + 1 + 1, 5, none⟩ = some (.int .i64 e) := HY.out.2.1.cell rfl
  have d0 : Y.cell? ⟨w.heap.size + 1, 0, none⟩ = some (.float .f64 0) := HY.out.2.2.1.cell rfl
  have d1 : Y.cell? ⟨w.heap.size + 1, 1, none⟩ = some (.int .u64 0) := HY.out.2.2.1.cell rfl
  have d2 : Y.cell? ⟨w.heap.size + 1, 2, none⟩ = some (.bool false) := HY.out.2.2.1.cell rfl
  have d3 : Y.cell? ⟨w.heap.size + 1, 3, none⟩ = some (.int .u64 0) := HY.out.2.2.1.cell rfl
  have d4 : Y.cell? ⟨w.heap.size + 1, 4, none⟩ = some (.slice none 0 0) := HY.out.2.2.1.cell rfl
  have d5 : Y.cell? ⟨w.heap.size + 1, 5, none⟩ = some (.int .i64 0) := HY.out.2.2.1.cell rfl
  have e0 := HY.out.2.2.1.frozen 0
  have e1 := HY.out.2.2.1.frozen 1
  have e2 := HY.out.2.2.1.frozen 2
  have e3 := HY.out.2.2.1.frozen 3
  have e4 := HY.out.2.2.1.frozen 4
  have e5 := HY.out.2.2.1.frozen 5
  have HX : Hid (Blk Y (w.heap.size + 1) 43 (rpA 0 0 false 0 (.slice none 0 0) 0) ∧ Keeps (fun i => i = w.heap.size + 1 + 1) w1 Y) := hid HY.out.2.2
  have HE := HY.out.1
  have HP := hid (And.intro hP hD)
  clear hP hD HC HY
  subst HE
  go_wp2_with fail
  refine bodyPost_ret (reply_ret rfl _ _ (w.heap.size + 1) _ rfl (HX.out.1.set6) rfl) rfl ?_
  have kz := keeps_set6 (w1.setCell ⟨w.heap.size + 1 + 1, 5, none⟩ (.int .i64 e)) (w.heap.size + 1) (.float .f64 0) (.int .u64 0) (.bool false) (.int .u64 0) (.slice none 0 0) (.int .i64 e)
  exact ⟨e, w1, rfl, HP.out.1, (HX.out.2.mono (fun i _ e => by show w.heap.size ≤ i ∧ i ≤ w.heap.size + 1 + 1; omega)).trans (kz.mono (fun i _ e => by show w.heap.size ≤ i ∧ i ≤ w.heap.size + 1 + 1; omega))⟩
set_option maxRecDepth 100000 in
set_option maxHeartbeats 4000000 in
theorem do_kind2 {tv : Value} {a h o on bits wd : Int} {w : World} (P : Nat → Int → Bool → Int → World → Prop) (C : Calls Try.prog 28 #[tv, .int .u64 a, .int .u64 h] (doX w 2 on bits wd) fun r w' => ∃ n x hb e, r = .returned (.tuple #[.agg #[.float .f64 n, .int .u64 x], .bool hb, .int .i64 e]) ∧ P n x hb e w' ∧ DoAt w w' 2 on bits wd) :
    Calls Try.prog 11 #[tv, .int .u64 a, .int .u64 h, .int .u64 o, stV 2 on bits wd] w fun r w' => ∃ n x hb e w1, r = .returned (.agg (rpA n x hb 0 (.slice none 0 0) e)) ∧ P n x hb e w1 ∧ Keeps (doS w) w1 w' := by
  have HC := hid C
  unfold doX at HC
  unfold stV
  clear C
  go_enter Try.func11, Try.ntmps11
  go_wp2_with fail
  refine HC.out.mono ?_
  rintro r w1 ⟨n, x, hb, e, rfl, hP, hD⟩
  have f0 := hD.b.frozen 0
  have c0 : w1.cell? ⟨w.heap.size + 1 + 1, 0, none⟩ = some (.float .f64 0) := hD.b.cell rfl
  have f1 := hD.b.frozen 1
  have c1 : w1.cell? ⟨w.heap.size + 1 + 1, 1, none⟩ = some (.int .u64 0) := hD.b.cell rfl
  have f2 := hD.b.frozen 2
  have c2 : w1.cell? ⟨w.heap.size + 1 + 1, 2, none⟩ = some (.bool false) := hD.b.cell rfl
  have f5 := hD.b.frozen 5
  have c5 : w1.cell? ⟨w.heap.size + 1 + 1, 5, none⟩ = some (.int .i64 0) := hD.b.cell rfl
  have HY : Hid (∃ Y, Y = ((((w1.setCell ⟨w.heap.size + 1 + 1, 0, none⟩ (.float .f64 n)).setCell ⟨w.heap.size + 1 + 1, 1, none⟩ (.int .u64 x)).setCell ⟨w.heap.size + 1 + 1, 2, none⟩ (.bool hb)).setCell ⟨w.heap.size + 1 + 1, 5, none⟩ (.int .i64 e)) ∧ Blk Y (w.heap.size + 1 + 1) 43 (rpA n x hb 0 (.slice none 0 0) e) ∧ Blk Y (w.heap.size + 1) 43 (rpA 0 0 false 0 (.slice none 0 0) 0) ∧ Keeps (fun i => i = w.heap.size + 1 + 1) w1 Y) := hid ⟨_, rfl, ((((hD.b.set 0 (.float .f64 n)).set 1 (.int .u64 x)).set 2 (.bool hb)).set 5 (.int .i64 e)), hD.a.kept ((((keeps_set w1 (w.heap.size + 1 + 1) 0 (.float .f64 n)).trans (keeps_set _ (w.heap.size + 1 + 1) 1 (.int .u64 x))).trans (keeps_set _ (w.heap.size + 1 + 1) 2 (.bool hb))).trans (keeps_set _ (w.heap.size + 1 + 1) 5 (.int .i64 e))) (by omega), ((((keeps_set w1 (w.heap.size + 1 + 1) 0 (.float .f64 n)).trans (keeps_set _ (w.heap.size + 1 + 1) 1 (.int .u64 x))).trans (keeps_set _ (w.heap.size + 1 + 1) 2 (.bool hb))).trans (keeps_set _ (w.heap.size + 1 + 1) 5 (.int .i64 e)))⟩
  obtain ⟨Y, HY⟩ : ∃ Y, Hid (Y = ((((w1.setCell ⟨w.heap.size + 1 + 1, 0, none⟩ (.float .f64 n)).setCell ⟨w.heap.size + 1 + 1, 1, none⟩ (.int .u64 x)).setCell ⟨w.heap.size + 1 + 1, 2, none⟩ (.bool hb)).setCell ⟨w.heap.size + 1 + 1, 5, none⟩ (.int .i64 e)) ∧ Blk Y (w.heap.size + 1 + 1) 43 (rpA n x hb 0 (.slice none 0 0) e) ∧ Blk Y (w.heap.size + 1) 43 (rpA 0 0 false 0 (.slice none 0 0) 0) ∧ Keeps (fun i => i = w.heap.size + 1 + 1) w1 Y) := by obtain ⟨Y, h⟩ := HY.out; exact ⟨Y, hid h⟩
  have b0 : Y.cell? ⟨w.heap.size + 1 + 1, 0, none⟩ = some (.float .f64 n) := HY.out.2.1.cell rfl
  have b1 : Y.cell? ⟨w.heap.size + 1 + 1, 1, none⟩ = some (.int .u64 x) := HY.out.2.1.cell rfl
  have b2 : Y.cell? ⟨w.heap.size + 1 + 1, 2, none⟩ = some (.bool hb) := HY.out.2.1.cell rfl
  have b3 : Y.cell? ⟨w.heap.size + 1 + 1, 3, none⟩ = some (.int .u64 0) := HY.out.2.1.cell rfl
  have b4 : Y.cell? ⟨w.heap.size + 1 + 1, 4, none⟩ = some (.slice none 0 0) := HY.out.2.1.cell rfl
  have b5 : Y.cell? ⟨w.heap.size + 1 + 1, 5, none⟩ = some (.int .i64 e) := HY.out.2.1.cell rfl
  have d0 : Y.cell? ⟨w.heap.size + 1, 0, none⟩ = some (.float .f64 0) := HY.out.2.2.1.cell rfl
  have d1 : Y.cell? ⟨w.heap.size + 1, 1, none⟩ = some (.int .u64 0) := HY.out.2.2.1.cell rfl
  have d2 : Y.cell? ⟨w.heap.size + 1, 2, none⟩ = some (.bool false) := HY.out.2.2.1.cell rfl
  have d3 : Y.cell? ⟨w.heap.size + 1, 3, none⟩ = some (.int .u64 0) := HY.out.2.2.1.cell rfl
  have d4 : Y.cell? ⟨w.heap.size + 1, 4, none⟩ = some (.slice none 0 0) := HY.out.2.2.1.cell rfl
  have d5 : Y.cell? ⟨w.heap.size + 1, 5, none⟩ = some (.int .i64 0) := HY.out.2.2.1.cell rfl
  have e0 := HY.out.2.2.1.frozen 0
  have e1 := HY.out.2.2.1.frozen 1
  have e2 := HY.out.2.2.1.frozen 2
  have e3 := HY.out.2.2.1.frozen 3
  have e4 := HY.out.2.2.1.frozen 4
  have e5 := HY.out.2.2.1.frozen 5
  have HX : Hid (Blk Y (w.heap.size + 1) 43 (rpA 0 0 false 0 (.slice none 0 0) 0) ∧ Keeps (fun i => i = w.heap.size + 1 + 1) w1 Y) := hid HY.out.2.2
  have HE := HY.out.1
  have HP := hid (And.intro hP hD)
  clear hP hD HC HY
  subst HE
  go_wp2_with fail
  refine bodyPost_ret (reply_ret rfl _ _ (w.heap.size + 1) _ rfl (HX.out.1.set6) rfl) rfl ?_
  have kz := keeps_set6 ((((w1.setCell ⟨w.heap.size + 1 + 1, 0, none⟩ (.float .f64 n)).setCell ⟨w.heap.size + 1 + 1, 1, none⟩ (.int .u64 x)).setCell ⟨w.heap.size + 1 + 1, 2, none⟩ (.bool hb)).setCell ⟨w.heap.size + 1 + 1, 5, none⟩ (.int .i64 e)) (w.heap.size + 1) (.float .f64 n) (.int .u64 x) (.bool hb) (.int .u64 0) (.slice none 0 0) (.int .i64 e)
  exact ⟨n, x, hb, e, w1, rfl, HP.out.1, (HX.out.2.mono (fun i _ e => by show w.heap.size ≤ i ∧ i ≤ w.heap.size + 1 + 1; omega)).trans (kz.mono (fun i _ e => by show w.heap.size ≤ i ∧ i ≤ w.heap.size + 1 + 1; omega))⟩
set_option maxRecDepth 100000 in
set_option maxHeartbeats 4000000 in
theorem do_kind3 {tv : Value} {a h o on bits wd : Int} {w : World} (P : Nat → Int → Bool → Int → World → Prop) (C : Calls Try.prog 33 #[tv, .int .u64 h] (doX w 3 on bits wd) fun r w' => ∃ n x hb e, r = .returned (.tuple #[.agg #[.float .f64 n, .int .u64 x], .bool hb, .int .i64 e]) ∧ P n x hb e w' ∧ DoAt w w' 3 on bits wd) :
    Calls Try.prog 11 #[tv, .int .u64 a, .int .u64 h, .int .u64 o, stV 3 on bits wd] w fun r w' => ∃ n x hb e w1, r = .returned (.agg (rpA n x hb 0 (.slice none 0 0) e)) ∧ P n x hb e w1 ∧ Keeps (doS w) w1 w' := by
  have HC := hid C
  unfold doX at HC
  unfold stV
  clear C
  go_enter Try.func11, Try.ntmps11
  go_wp2_with fail
  refine HC.out.mono ?_
  rintro r w1 ⟨n, x, hb, e, rfl, hP, hD⟩
  have f0 := hD.b.frozen 0
  have c0 : w1.cell? ⟨w.heap.size + 1 + 1, 0, none⟩ = some (.float .f64 0) := hD.b.cell rfl
  have f1 := hD.b.frozen 1
  have c1 : w1.cell? ⟨w.heap.size + 1 + 1, 1, none⟩ = some (.int .u64 0) := hD.b.cell rfl
  have f2 := hD.b.frozen 2
  have c2 : w1.cell? ⟨w.heap.size + 1 + 1, 2, none⟩ = some (.bool false) := hD.b.cell rfl
  have f5 := hD.b.frozen 5
  have c5 : w1.cell? ⟨w.heap.size + 1 + 1, 5, none⟩ = some (.int .i64 0) := hD.b.cell rfl
  have HY : Hid (∃ Y, Y = ((((w1.setCell ⟨w.heap.size + 1 + 1, 0, none⟩ (.float .f64 n)).setCell ⟨w.heap.size + 1 + 1, 1, none⟩ (.int .u64 x)).setCell ⟨w.heap.size + 1 + 1, 2, none⟩ (.bool hb)).setCell ⟨w.heap.size + 1 + 1, 5, none⟩ (.int .i64 e)) ∧ Blk Y (w.heap.size + 1 + 1) 43 (rpA n x hb 0 (.slice none 0 0) e) ∧ Blk Y (w.heap.size + 1) 43 (rpA 0 0 false 0 (.slice none 0 0) 0) ∧ Keeps (fun i => i = w.heap.size + 1 + 1) w1 Y) := hid ⟨_, rfl, ((((hD.b.set 0 (.float .f64 n)).set 1 (.int .u64 x)).set 2 (.bool hb)).set 5 (.int .i64 e)), hD.a.kept ((((keeps_set w1 (w.heap.size + 1 + 1) 0 (.float .f64 n)).trans (keeps_set _ (w.heap.size + 1 + 1) 1 (.int .u64 x))).trans (keeps_set _ (w.heap.size + 1 + 1) 2 (.bool hb))).trans (keeps_set _ (w.heap.size + 1 + 1) 5 (.int .i64 e))) (by omega), ((((keeps_set w1 (w.heap.size + 1 + 1) 0 (.float .f64 n)).trans (keeps_set _ (w.heap.size + 1 + 1) 1 (.int .u64 x))).trans (keeps_set _ (w.heap.size + 1 + 1) 2 (.bool hb))).trans (keeps_set _ (w.heap.size + 1 + 1) 5 (.int .i64 e)))⟩
  obtain ⟨Y, HY⟩ : ∃ Y, Hid (Y = ((((w1.setCell ⟨w.heap.size + 1 + 1, 0, none⟩ (.float .f64 n)).setCell ⟨w.heap.size + 1 + 1, 1, none⟩ (.int .u64 x)).setCell ⟨w.heap.size + 1 + 1, 2, none⟩ (.bool hb)).setCell ⟨w.heap.size + 1 + 1, 5, none⟩ (.int .i64 e)) ∧ Blk Y (w.heap.size + 1 + 1) 43 (rpA n x hb 0 (.slice none 0 0) e) ∧ Blk Y (w.heap.size + 1) 43 (rpA 0 0 false 0 (.slice none 0 0) 0) ∧ Keeps (fun i => i = w.heap.size + 1 + 1) w1 Y) := by obtain ⟨Y, h⟩ := HY.out; exact ⟨Y, hid h⟩
  have b0 : Y.cell? ⟨w.heap.size + 1 + 1, 0, none⟩ = some (.float .f64 n) := HY.out.2.1.cell rfl
  have b1 : Y.cell? ⟨w.heap.size + 1 + 1, 1, none⟩ = some (.int .u64 x) := HY.out.2.1.cell rfl
  have b2 : Y.cell? ⟨w.heap.size + 1 + 1, 2, none⟩ = some (.bool hb) := HY.out.2.1.cell rfl
  have b3 : Y.cell? ⟨w.heap.size + 1 + 1, 3, none⟩ = some (.int .u64 0) := HY.out.2.1.cell rfl
  have b4 : Y.cell? ⟨w.heap.size + 1 + 1, 4, none⟩ = some (.slice none 0 0) := HY.out.2.1.cell rfl
  have b5 : Y.cell? ⟨w.heap.size + 1 + 1, 5, none⟩ = some (.int .i64 e) := HY.out.2.1.cell rfl
  have d0 : Y.cell? ⟨w.heap.size + 1, 0, none⟩ = some (.float .f64 0) := HY.out.2.2.1.cell rfl
  have d1 : Y.cell? ⟨w.heap.size + 1, 1, none⟩ = some (.int .u64 0) := HY.out.2.2.1.cell rfl
  have d2 : Y.cell? ⟨w.heap.size + 1, 2, none⟩ = some (.bool false) := HY.out.2.2.1.cell rfl
  have d3 : Y.cell? ⟨w.heap.size + 1, 3, none⟩ = some (.int .u64 0) := HY.out.2.2.1.cell rfl
  have d4 : Y.cell? ⟨w.heap.size + 1, 4, none⟩ = some (.slice none 0 0) := HY.out.2.2.1.cell rfl
  have d5 : Y.cell? ⟨w.heap.size + 1, 5, none⟩ = some (.int .i64 0) := HY.out.2.2.1.cell rfl
  have e0 := HY.out.2.2.1.frozen 0
  have e1 := HY.out.2.2.1.frozen 1
  have e2 := HY.out.2.2.1.frozen 2
  have e3 := HY.out.2.2.1.frozen 3
  have e4 := HY.out.2.2.1.frozen 4
  have e5 := HY.out.2.2.1.frozen 5
  have HX : Hid (Blk Y (w.heap.size + 1) 43 (rpA 0 0 false 0 (.slice none 0 0) 0) ∧ Keeps (fun i => i = w.heap.size + 1 + 1) w1 Y) := hid HY.out.2.2
  have HE := HY.out.1
  have HP := hid (And.intro hP hD)
  clear hP hD HC HY
  subst HE
  go_wp2_with fail
  refine bodyPost_ret (reply_ret rfl _ _ (w.heap.size + 1) _ rfl (HX.out.1.set6) rfl) rfl ?_
  have kz := keeps_set6 ((((w1.setCell ⟨w.heap.size + 1 + 1, 0, none⟩ (.float .f64 n)).setCell ⟨w.heap.size + 1 + 1, 1, none⟩ (.int .u64 x)).setCell ⟨w.heap.size + 1 + 1, 2, none⟩ (.bool hb)).setCell ⟨w.heap.size + 1 + 1, 5, none⟩ (.int .i64 e)) (w.heap.size + 1) (.float .f64 n) (.int .u64 x) (.bool hb) (.int .u64 0) (.slice none 0 0) (.int .i64 e)
  exact ⟨n, x, hb, e, w1, rfl, HP.out.1, (HX.out.2.mono (fun i _ e => by show w.heap.size ≤ i ∧ i ≤ w.heap.size + 1 + 1; omega)).trans (kz.mono (fun i _ e => by show w.heap.size ≤ i ∧ i ≤ w.heap.size + 1 + 1; omega))⟩
set_option maxRecDepth 100000 in
set_option maxHeartbeats 4000000 in
theorem do_kind4 {tv : Value} {a h o on bits wd : Int} {w : World} (P : Int → Int → World → Prop) (C : Calls Try.prog 34 #[tv, .int .u64 h] (doX w 4 on bits wd) fun r w' => ∃ x e, r = .returned (.tuple #[.int .u64 x, .int .i64 e]) ∧ P x e w' ∧ DoAt w w' 4 on bits wd) :
    Calls Try.prog 11 #[tv, .int .u64 a, .int .u64 h, .int .u64 o, stV 4 on bits wd] w fun r w' => ∃ x e w1, r = .returned (.agg (rpA 0 0 false x (.slice none 0 0) e)) ∧ P x e w1 ∧ Keeps (doS w) w1 w' := by
  have HC := hid C
  unfold doX at HC
  unfold stV
  clear C
  go_enter Try.func11, Try.ntmps11
  go_wp2_with fail
  refine HC.out.mono ?_
  rintro r w1 ⟨x, e, rfl, hP, hD⟩
  have f3 := hD.b.frozen 3
  have c3 : w1.cell? ⟨w.heap.size + 1 + 1, 3, none⟩ = some (.int .u64 0) := hD.b.cell rfl
  have f5 := hD.b.frozen 5
  have c5 : w1.cell? ⟨w.heap.size + 1 + 1, 5, none⟩ = some (.int .i64 0) := hD.b.cell rfl
  have HY : Hid (∃ Y, Y = ((w1.setCell ⟨w.heap.size + 1 + 1, 3, none⟩ (.int .u64 x)).setCell ⟨w.heap.size + 1 + 1, 5, none⟩ (.int .i64 e)) ∧ Blk Y (w.heap.size + 1 + 1) 43 (rpA 0 0 false x (.slice none 0 0) e) ∧ Blk Y (w.heap.size + 1) 43 (rpA 0 0 false 0 (.slice none 0 0) 0) ∧ Keeps (fun i => i = w.heap.size + 1 + 1) w1 Y) := hid ⟨_, rfl, ((hD.b.set 3 (.int .u64 x)).set 5 (.int .i64 e)), hD.a.kept ((keeps_set w1 (w.heap.size + 1 + 1) 3 (.int .u64 x)).trans (keeps_set _ (w.heap.size + 1 + 1) 5 (.int .i64 e))) (by omega), ((keeps_set w1 (w.heap.size + 1 + 1) 3 (.int .u64 x)).trans (keeps_set _ (w.heap.size + 1 + 1) 5 (.int .i64 e)))⟩
  obtain ⟨Y, HY⟩ : ∃ Y, Hid (Y = ((w1.setCell ⟨w.heap.size + 1 + 1, 3, none⟩ (.int .u64 x)).setCell ⟨w.heap.size + 1 + 1, 5, none⟩ (.int .i64 e)) ∧ Blk Y (w.heap.size + 1 + 1) 43 (rpA 0 0 false x (.slice none 0 0) e) ∧ Blk Y (w.heap.size + 1) 43 (rpA 0 0 false 0 (.slice none 0 0) 0) ∧ Keeps (fun i => i = w.heap.size + 1 + 1) w1 Y) := by obtain ⟨Y, h⟩ := HY.out; exact ⟨Y, hid h⟩
  have b0 : Y.cell? ⟨w.heap.size + 1 + 1, 0, none⟩ = some (.float .f64 0) := HY.out.2.1.cell rfl
  have b1 : Y.cell? ⟨w.heap.size + 1 + 1, 1, none⟩ = some (.int .u64 0) := HY.out.2.1.cell rfl
  have b2 : Y.cell? ⟨w.heap.size + 1 + 1, 2, none⟩ = some (.bool false) := HY.out.2.1.cell rfl
  have b3 : Y.cell? ⟨w.heap.size + 1 + 1, 3, none⟩ = some (.int .u64 x) := HY.out.2.1.cell rfl
  have b4 : Y.cell? ⟨w.heap.size + 1 + 1, 4, none⟩ = some (.slice none 0 0) := HY.out.2.1.cell rfl
  have b5 : Y.cell? ⟨w.heap.size + 1 + 1, 5, none⟩ = some (.int .i64 e) := HY.out.2.1.cell rfl
  have d0 : Y.cell? ⟨w.heap.size + 1, 0, none⟩ = some (.float .f64 0) := HY.out.2.2.1.cell rfl
  have d1 : Y.cell? ⟨w.heap.size + 1, 1, none⟩ = some (.int .u64 0) := HY.out.2.2.1.cell rfl
  have d2 : Y.cell? ⟨w.heap.size + 1, 2, none⟩ = some (.bool false) := HY.out.2.2.1.cell rfl
  have d3 : Y.cell? ⟨w.heap.size + 1, 3, none⟩ = some (.int .u64 0) := HY.out.2.2.1.cell rfl
  have d4 : Y.cell? ⟨w.heap.size + 1, 4, none⟩ = some (.slice none 0 0) := HY.out.2.2.1.cell rfl
  have d5 : Y.cell? ⟨w.heap.size + 1, 5, none⟩ = some (.int .i64 0) := HY.out.2.2.1.cell rfl
  have e0 := HY.out.2.2.1.frozen 0
  have e1 := HY.out.2.2.1.frozen 1
  have e2 := HY.out.2.2.1.frozen 2
  have e3 := HY.out.2.2.1.frozen 3
  have e4 := HY.out.2.2.1.frozen 4
  have e5 := HY.out.2.2.1.frozen 5
  have HX : Hid (Blk Y (w.heap.size + 1) 43 (rpA 0 0 false 0 (.slice none 0 0) 0) ∧ Keeps (fun i => i = w.heap.size + 1 + 1) w1 Y) := hid HY.out.2.2
  have HE := HY.out.1
  have HP := hid (And.intro hP hD)
  clear hP hD HC HY
  subst HE
  go_wp2_with fail
  refine bodyPost_ret (reply_ret rfl _ _ (w.heap.size + 1) _ rfl (HX.out.1.set6) rfl) rfl ?_
  have kz := keeps_set6 ((w1.setCell ⟨w.heap.size + 1 + 1, 3, none⟩ (.int .u64 x)).setCell ⟨w.heap.size + 1 + 1, 5, none⟩ (.int .i64 e)) (w.heap.size + 1) (.float .f64 0) (.int .u64 0) (.bool false) (.int .u64 x) (.slice none 0 0) (.int .i64 e)
  exact ⟨x, e, w1, rfl, HP.out.1, (HX.out.2.mono (fun i _ e => by show w.heap.size ≤ i ∧ i ≤ w.heap.size + 1 + 1; omega)).trans (kz.mono (fun i _ e => by show w.heap.size ≤ i ∧ i ≤ w.heap.size + 1 + 1; omega))⟩
set_option maxRecDepth 100000 in
set_option maxHeartbeats 4000000 in
theorem do_kind5 {tv : Value} {a h o on bits wd : Int} {w : World} (P : Option Addr → Nat → Nat → Int → World → Prop) (C : Calls Try.prog 22 #[tv, .int .u64 h] (doX w 5 on bits wd) fun r w' => ∃ la ln lc e, r = .returned (.tuple #[.slice la ln lc, .int .i64 e]) ∧ P la ln lc e w' ∧ DoAt w w' 5 on bits wd) :
    Calls Try.prog 11 #[tv, .int .u64 a, .int .u64 h, .int .u64 o, stV 5 on bits wd] w fun r w' => ∃ la ln lc e w1, r = .returned (.agg (rpA 0 0 false 0 (.slice la ln lc) e)) ∧ P la ln lc e w1 ∧ Keeps (doS w) w1 w' := by
  have HC := hid C
  unfold doX at HC
  unfold stV
  clear C
  go_enter Try.func11, Try.ntmps11
  go_wp2_with fail
  refine HC.out.mono ?_
  rintro r w1 ⟨la, ln, lc, e, rfl, hP, hD⟩
  have f4 := hD.b.frozen 4
  have c4 : w1.cell? ⟨w.heap.size + 1 + 1, 4, none⟩ = some (.slice none 0 0) := hD.b.cell rfl
  have f5 := hD.b.frozen 5
  have c5 : w1.cell? ⟨w.heap.size + 1 + 1, 5, none⟩ = some (.int .i64 0) := hD.b.cell rfl
  have HY : Hid (∃ Y, Y = ((w1.setCell ⟨w.heap.size + 1 + 1, 4, none⟩ (.slice la ln lc)).setCell ⟨w.heap.size + 1 + 1, 5, none⟩ (.int .i64 e)) ∧ Blk Y (w.heap.size + 1 + 1) 43 (rpA 0 0 false 0 (.slice la ln lc) e) ∧ Blk Y (w.heap.size + 1) 43 (rpA 0 0 false 0 (.slice none 0 0) 0) ∧ Keeps (fun i => i = w.heap.size + 1 + 1) w1 Y) := hid ⟨_, rfl, ((hD.b.set 4 (.slice la ln lc)).set 5 (.int .i64 e)), hD.a.kept ((keeps_set w1 (w.heap.size + 1 + 1) 4 (.slice la ln lc)).trans (keeps_set _ (w.heap.size + 1 + 1) 5 (.int .i64 e))) (by omega), ((keeps_set w1 (w.heap.size + 1 + 1) 4 (.slice la ln lc)).trans (keeps_set _ (w.heap.size + 1 + 1) 5 (.int .i64 e)))⟩
  obtain ⟨Y, HY⟩ : ∃ Y, Hid (Y = ((w1.setCell ⟨w.heap.size + 1 + 1, 4, none⟩ (.slice la ln lc)).setCell ⟨w.heap.size + 1 + 1, 5, none⟩ (.int .i64 e)) ∧ Blk Y (w.heap.size + 1 + 1) 43 (rpA 0 0 false 0 (.slice la ln lc) e) ∧ Blk Y (w.heap.size + 1) 43 (rpA 0 0 false 0 (.slice none 0 0) 0) ∧ Keeps (fun i => i = w.heap.size + 1 + 1) w1 Y) := by obtain ⟨Y, h⟩ := HY.out; exact ⟨Y, hid h⟩
  have b0 : Y.cell? ⟨w.heap.size + 1 + 1, 0, none⟩ = some (.float .f64 0) := HY.out.2.1.cell rfl
  have b1 : Y.cell? ⟨w.heap.size + 1 + 1, 1, none⟩ = some (.int .u64 0) := HY.out.2.1.cell rfl
  have b2 : Y.cell? ⟨w.heap.size + 1 + 1, 2, none⟩ = some (.bool false) := HY.out.2.1.cell rfl
  have b3 : Y.cell? ⟨w.heap.size + 1 + 1, 3, none⟩ = some (.int .u64 0) := HY.out.2.1.cell rfl
  have b4 : Y.cell? ⟨w.heap.size + 1 + 1, 4, none⟩ = some (.slice la ln lc) := HY.out.2.1.cell rfl
  have b5 : Y.cell? ⟨w.heap.size + 1 + 1, 5, none⟩ = some (.int .i64 e) := HY.out.2.1.cell rfl
  have d0 : Y.cell? ⟨w.heap.size + 1, 0, none⟩ = some (.float .f64 0) := HY.out.2.2.1.cell rfl
  have d1 : Y.cell? ⟨w.heap.size + 1, 1, none⟩ = some (.int .u64 0) := HY.out.2.2.1.cell rfl
  have d2 : Y.cell? ⟨w.heap.size + 1, 2, none⟩ = some (.bool false) := HY.out.2.2.1.cell rfl
  have d3 : Y.cell? ⟨w.heap.size + 1, 3, none⟩ = some (.int .u64 0) := HY.out.2.2.1.cell rfl
  have d4 : Y.cell? ⟨w.heap.size + 1, 4, none⟩ = some (.slice none 0 0) := HY.out.2.2.1.cell rfl
  have d5 : Y.cell? ⟨w.heap.size + 1, 5, none⟩ = some (.int .i64 0) := HY.out.2.2.1.cell rfl
  have e0 := HY.out.2.2.1.frozen 0
  have e1 := HY.out.2.2.1.frozen 1
  have e2 := HY.out.2.2.1.frozen 2
  have e3 := HY.out.2.2.1.frozen 3
  have e4 := HY.out.2.2.1.frozen 4
  have e5 := HY.out.2.2.1.frozen 5
  have HX : Hid (Blk Y (w.heap.size + 1) 43 (rpA 0 0 false 0 (.slice none 0 0) 0) ∧ Keeps (fun i => i = w.heap.size + 1 + 1) w1 Y) := hid HY.out.2.2
  have HE := HY.out.1
  have HP := hid (And.intro hP hD)
  clear hP hD HC HY
  subst HE
  go_wp2_with fail
  refine bodyPost_ret (reply_ret rfl _ _ (w.heap.size + 1) _ rfl (HX.out.1.set6) rfl) rfl ?_
  have kz := keeps_set6 ((w1.setCell ⟨w.heap.size + 1 + 1, 4, none⟩ (.slice la ln lc)).setCell ⟨w.heap.size + 1 + 1, 5, none⟩ (.int .i64 e)) (w.heap.size + 1) (.float .f64 0) (.int .u64 0) (.bool false) (.int .u64 0) (.slice la ln lc) (.int .i64 e)
  exact ⟨la, ln, lc, e, w1, rfl, HP.out.1, (HX.out.2.mono (fun i _ e => by show w.heap.size ≤ i ∧ i ≤ w.heap.size + 1 + 1; omega)).trans (kz.mono (fun i _ e => by show w.heap.size ≤ i ∧ i ≤ w.heap.size + 1 + 1; omega))⟩
set_option maxRecDepth 100000 in
set_option maxHeartbeats 4000000 in
theorem do_kind6 {tv : Value} {a h o on bits wd : Int} {w : World} (P : Int → Int → World → Prop) (C : Calls Try.prog 35 #[tv, .int .u64 a, .int .u64 h] (doX w 6 on bits wd) fun r w' => ∃ x e, r = .returned (.tuple #[.int .u64 x, .int .i64 e]) ∧ P x e w' ∧ DoAt w w' 6 on bits wd) :
    Calls Try.prog 11 #[tv, .int .u64 a, .int .u64 h, .int .u64 o, stV 6 on bits wd] w fun r w' => ∃ x e w1, r = .returned (.agg (rpA 0 0 false x (.slice none 0 0) e)) ∧ P x e w1 ∧ Keeps (doS w) w1 w' := by
  have HC := hid C
  unfold doX at HC
  unfold stV
  clear C
  go_enter Try.func11, Try.ntmps11
  go_wp2_with fail
  refine HC.out.mono ?_
  rintro r w1 ⟨x, e, rfl, hP, hD⟩
  have f3 := hD.b.frozen 3
  have c3 : w1.cell? ⟨w.heap.size + 1 + 1, 3, none⟩ = some (.int .u64 0) := hD.b.cell rfl
  have f5 := hD.b.frozen 5
  have c5 : w1.cell? ⟨w.heap.size + 1 + 1, 5, none⟩ = some (.int .i64 0) := hD.b.cell rfl
  have HY : Hid (∃ Y, Y = ((w1.setCell ⟨w.heap.size + 1 + 1, 3, none⟩ (.int .u64 x)).setCell ⟨w.heap.size + 1 + 1, 5, none⟩ (.int .i64 e)) ∧ Blk Y (w.heap.size + 1 + 1) 43 (rpA 0 0 false x (.slice none 0 0) e) ∧ Blk Y (w.heap.size + 1) 43 (rpA 0 0 false 0 (.slice none 0 0) 0) ∧ Keeps (fun i => i = w.heap.size + 1 + 1) w1 Y) := hid ⟨_, rfl, ((hD.b.set 3 (.int .u64 x)).set 5 (.int .i64 e)), hD.a.kept ((keeps_set w1 (w.heap.size + 1 + 1) 3 (.int .u64 x)).trans (keeps_set _ (w.heap.size + 1 + 1) 5 (.int .i64 e))) (by omega), ((keeps_set w1 (w.heap.size + 1 + 1) 3 (.int .u64 x)).trans (keeps_set _ (w.heap.size + 1 + 1) 5 (.int .i64 e)))⟩
  obtain ⟨Y, HY⟩ : ∃ Y, Hid (Y = ((w1.setCell ⟨w.heap.size + 1 + 1, 3, none⟩ (.int .u64 x)).setCell ⟨w.heap.size + 1 + 1, 5, none⟩ (.int .i64 e)) ∧ Blk Y (w.heap.size + 1 + 1) 43 (rpA 0 0 false x (.slice none 0 0) e) ∧ Blk Y (w.heap.size + 1) 43 (rpA 0 0 false 0 (.slice none 0 0) 0) ∧ Keeps (fun i => i = w.heap.size + 1 + 1) w1 Y) := by obtain ⟨Y, h⟩ := HY.out; exact ⟨Y, hid h⟩
  have b0 : Y.cell? ⟨w.heap.size + 1 + 1, 0, none⟩ = some (.float .f64 0) := HY.out.2.1.cell rfl
  have b1 : Y.cell? ⟨w.heap.size + 1 + 1, 1, none⟩ = some (.int .u64 0) := HY.out.2.1.cell rfl
  have b2 : Y.cell? ⟨w.heap.size + 1 + 1, 2, none⟩ = some (.bool false) := HY.out.2.1.cell rfl
  have b3 : Y.cell? ⟨w.heap.size + 1 + 1, 3, none⟩ = some (.int .u64 x) := HY.out.2.1.cell rfl
  have b4 : Y.cell? ⟨w.heap.size + 1 + 1, 4, none⟩ = some (.slice none 0 0) := HY.out.2.1.cell rfl
  have b5 : Y.cell? ⟨w.heap.size + 1 + 1, 5, none⟩ = some (.int .i64 e) := HY.out.2.1.cell rfl
  have d0 : Y.cell? ⟨w.heap.size + 1, 0, none⟩ = some (.float .f64 0) := HY.out.2.2.1.cell rfl
  have d1 : Y.cell? ⟨w.heap.size + 1, 1, none⟩ = some (.int .u64 0) := HY.out.2.2.1.cell rfl
  have d2 : Y.cell? ⟨w.heap.size + 1, 2, none⟩ = some (.bool false) := HY.out.2.2.1.cell rfl
  have d3 : Y.cell? ⟨w.heap.size + 1, 3, none⟩ = some (.int .u64 0) := HY.out.2.2.1.cell rfl
  have d4 : Y.cell? ⟨w.heap.size + 1, 4, none⟩ = some (.slice none 0 0) := HY.out.2.2.1.cell rfl
  have d5 : Y.cell? ⟨w.heap.size + 1, 5, none⟩ = some (.int .i64 0) := HY.out.2.2.1.cell rfl
  have e0 := HY.out.2.2.1.frozen 0
  have e1 := HY.out.2.2.1.frozen 1
  have e2 := HY.out.2.2.1.frozen 2
  have e3 := HY.out.2.2.1.frozen 3
  have e4 := HY.out.2.2.1.frozen 4
  have e5 := HY.out.2.2.1.frozen 5
  have HX : Hid (Blk Y (w.heap.size + 1) 43 (rpA 0 0 false 0 (.slice none 0 0) 0) ∧ Keeps (fun i => i = w.heap.size + 1 + 1) w1 Y) := hid HY.out.2.2
  have HE := HY.out.1
  have HP := hid (And.intro hP hD)
  clear hP hD HC HY
  subst HE
  go_wp2_with fail
  refine bodyPost_ret (reply_ret rfl _ _ (w.heap.size + 1) _ rfl (HX.out.1.set6) rfl) rfl ?_
  have kz := keeps_set6 ((w1.setCell ⟨w.heap.size + 1 + 1, 3, none⟩ (.int .u64 x)).setCell ⟨w.heap.size + 1 + 1, 5, none⟩ (.int .i64 e)) (w.heap.size + 1) (.float .f64 0) (.int .u64 0) (.bool false) (.int .u64 x) (.slice none 0 0) (.int .i64 e)
  exact ⟨x, e, w1, rfl, HP.out.1, (HX.out.2.mono (fun i _ e => by show w.heap.size ≤ i ∧ i ≤ w.heap.size + 1 + 1; omega)).trans (kz.mono (fun i _ e => by show w.heap.size ≤ i ∧ i ≤ w.heap.size + 1 + 1; omega))⟩
set_option maxRecDepth 100000 in
set_option maxHeartbeats 4000000 in
theorem do_kind7 {tv : Value} {a h o on bits wd : Int} {w : World} (P : Int → World → Prop) (C : Calls Try.prog 26 #[tv, .int .u64 h, .int .u64 o] (doX w 7 on bits wd) fun r w' => ∃ e, r = .returned (.int .i64 e) ∧ P e w' ∧ DoAt w w' 7 on bits wd) :
    Calls Try.prog 11 #[tv, .int .u64 a, .int .u64 h, .int .u64 o, stV 7 on bits wd] w fun r w' => ∃ e w1, r = .returned (.agg (rpA 0 0 false 0 (.slice none 0 0) e)) ∧ P e w1 ∧ Keeps (doS w) w1 w' := by
  have HC := hid C
  unfold doX at HC
  unfold stV
  clear C
  go_enter Try.func11, Try.ntmps11
  go_wp2_with fail
  refine HC.out.mono ?_
  rintro r w1 ⟨e, rfl, hP, hD⟩
  have f5 := hD.b.frozen 5
  have c5 : w1.cell? ⟨w.heap.size + 1 + 1, 5, none⟩ = some (.int .i64 0) := hD.b.cell rfl
  have HY : Hid (∃ Y, Y = (w1.setCell ⟨w.heap.size + 1 + 1, 5, none⟩ (.int .i64 e)) ∧ Blk Y (w.heap.size + 1 + 1) 43 (rpA 0 0 false 0 (.slice none 0 0) e) ∧ Blk Y (w.heap.size + 1) 43 (rpA 0 0 false 0 (.slice none 0 0) 0) ∧ Keeps (fun i => i = w.heap.size + 1 + 1) w1 Y) := hid ⟨_, rfl, (hD.b.set 5 (.int .i64 e)), hD.a.kept (keeps_set w1 (w.heap.size + 1 + 1) 5 (.int .i64 e)) (by omega), (keeps_set w1 (w.heap.size + 1 + 1) 5 (.int .i64 e))⟩
  obtain ⟨Y, HY⟩ : ∃ Y, Hid (Y = (w1.setCell ⟨w.heap.size + 1 + 1, 5, none⟩ (.int .i64 e)) ∧ Blk Y (w.heap.size + 1 + 1) 43 (rpA 0 0 false 0 (.slice none 0 0) e) ∧ Blk Y (w.heap.size + 1) 43 (rpA 0 0 false 0 (.slice none 0 0) 0) ∧ Keeps (fun i => i = w.heap.size + 1 + 1) w1 Y) := by obtain ⟨Y, h⟩ := HY.out; exact ⟨Y, hid h⟩
  have b0 : Y.cell? ⟨w.heap.size + 1 + 1, 0, none⟩ = some (.float .f64 0) := HY.out.2.1.cell rfl
  have b1 : Y.cell? ⟨w.heap.size + 1 + 1, 1, none⟩ = some (.int .u64 0) := HY.out.2.1.cell rfl
  have b2 : Y.cell? ⟨w.heap.size + 1 + 1, 2, none⟩ = some (.bool false) := HY.out.2.1.cell rfl
  have b3 : Y.cell? ⟨w.heap.size + 1 + 1, 3, none⟩ = some (.int .u64 0) := HY.out.2.1.cell rfl
  have b4 : Y.cell? ⟨w.heap.size + 1 + 1, 4, none⟩ = some (.slice none 0 0) := HY.out.2.1.cell rfl
  have b5 : Y.cell? ⟨w.heap.size + 1 + 1, 5, none⟩ = some (.int .i64 e) := HY.out.2.1.cell rfl
  have d0 : Y.cell? ⟨w.heap.size + 1, 0, none⟩ = some (.float .f64 0) := HY.out.2.2.1.cell rfl
  have d1 : Y.cell? ⟨w.heap.size + 1, 1, none⟩ = some (.int .u64 0) := HY.out.2.2.1.cell rfl
  have d2 : Y.cell? ⟨w.heap.size + 1, 2, none⟩ = some (.bool false) := HY.out.2.2.1.cell rfl
  have d3 : Y.cell? ⟨w.heap.size + 1, 3, none⟩ = some (.int .u64 0) := HY.out.2.2.1.cell rfl
  have d4 : Y.cell? ⟨w.heap.size + 1, 4, none⟩ = some (.slice none 0 0) := HY.out.2.2.1.cell rfl
  have d5 : Y.cell? ⟨w.heap.size + 1, 5, none⟩ = some (.int .i64 0) := HY.out.2.2.1.cell rfl
  have e0 := HY.out.2.2.1.frozen 0
  have e1 := HY.out.2.2.1.frozen 1
  have e2 := HY.out.2.2.1.frozen 2
  have e3 := HY.out.2.2.1.frozen 3
  have e4 := HY.out.2.2.1.frozen 4
  have e5 := HY.out.2.2.1.frozen 5
  have HX : Hid (Blk Y (w.heap.size + 1) 43 (rpA 0 0 false 0 (.slice none 0 0) 0) ∧ Keeps (fun i => i = w.heap.size + 1 + 1) w1 Y) := hid HY.out.2.2
  have HE := HY.out.1
  have HP := hid (And.intro hP hD)
  clear hP hD HC HY
  subst HE
  go_wp2_with fail
  refine bodyPost_ret (reply_ret rfl _ _ (w.heap.size + 1) _ rfl (HX.out.1.set6) rfl) rfl ?_
  have kz := keeps_set6 (w1.setCell ⟨w.heap.size + 1 + 1, 5, none⟩ (.int .i64 e)) (w.heap.size + 1) (.float .f64 0) (.int .u64 0) (.bool false) (.int .u64 0) (.slice none 0 0) (.int .i64 e)
  exact ⟨e, w1, rfl, HP.out.1, (HX.out.2.mono (fun i _ e => by show w.heap.size ≤ i ∧ i ≤ w.heap.size + 1 + 1; omega)).trans (kz.mono (fun i _ e => by show w.heap.size ≤ i ∧ i ≤ w.heap.size + 1 + 1; omega))⟩
set_option maxRecDepth 100000 in
set_option maxHeartbeats 4000000 in
theorem do_kind8 {tv : Value} {a h o on bits wd : Int} {w : World} (P : Int → World → Prop) (C : Calls Try.prog 26 #[tv, .int .u64 h, .int .u64 h] (doX w 8 on bits wd) fun r w' => ∃ e, r = .returned (.int .i64 e) ∧ P e w' ∧ DoAt w w' 8 on bits wd) :
    Calls Try.prog 11 #[tv, .int .u64 a, .int .u64 h, .int .u64 o, stV 8 on bits wd] w fun r w' => ∃ e w1, r = .returned (.agg (rpA 0 0 false 0 (.slice none 0 0) e)) ∧ P e w1 ∧ Keeps (doS w) w1 w' := by
  have HC := hid C
  unfold doX at HC
  unfold stV
  clear C
  go_enter Try.func11, Try.ntmps11
  go_wp2_with fail
  refine HC.out.mono ?_
  rintro r w1 ⟨e, rfl, hP, hD⟩
  have f5 := hD.b.frozen 5
  have c5 : w1.cell? ⟨w.heap.size + 1 + 1, 5, none⟩ = some (.int .i64 0) := hD.b.cell rfl
  have HY : Hid (∃ Y, Y = (w1.setCell ⟨w.heap.size + 1 + 1, 5, none⟩ (.int .i64 e)) ∧ Blk Y (w.heap.size + 1 + 1) 43 (rpA 0 0 false 0 (.slice none 0 0) e) ∧ Blk Y (w.heap.size + 1) 43 (rpA 0 0 false 0 (.slice none 0 0) 0) ∧ Keeps (fun i => i = w.heap.size + 1 + 1) w1 Y) := hid ⟨_, rfl, (hD.b.set 5 (.int .i64 e)), hD.a.kept (keeps_set w1 (w.heap.size + 1 + 1) 5 (.int .i64 e)) (by omega), (keeps_set w1 (w.heap.size + 1 + 1) 5 (.int .i64 e))⟩
  obtain ⟨Y, HY⟩ : ∃ Y, Hid (Y = (w1.setCell ⟨w.heap.size + 1 + 1, 5, none⟩ (.int .i64 e)) ∧ Blk Y (w.heap.size + 1 + 1) 43 (rpA 0 0 false 0 (.slice none 0 0) e) ∧ Blk Y (w.heap.size + 1) 43 (rpA 0 0 false 0 (.slice none 0 0) 0) ∧ Keeps (fun i => i = w.heap.size + 1 + 1) w1 Y) := by obtain ⟨Y, h⟩ := HY.out; exact ⟨Y, hid h⟩
  have b0 : Y.cell? ⟨w.heap.size + 1 + 1, 0, none⟩ = some (.float .f64 0) := HY.out.2.1.cell rfl
  have b1 : Y.cell? ⟨w.heap.size + 1 + 1, 1, none⟩ = some (.int .u64 0) := HY.out.2.1.cell rfl
  have b2 : Y.cell? ⟨w.heap.size + 1 + 1, 2, none⟩ = some (.bool false) := HY.out.2.1.cell rfl
  have b3 : Y.cell? ⟨w.heap.size + 1 + 1, 3, none⟩ = some (.int .u64 0) := HY.out.2.1.cell rfl
  have b4 : Y.cell? ⟨w.heap.size + 1 + 1, 4, none⟩ = some (.slice none 0 0) := HY.out.2.1.cell rfl
  have b5 : Y.cell? ⟨w.heap.size + 1 + 1, 5, none⟩ = some (.int .i64 e) := HY.out.2.1.cell rfl
  have d0 : Y.cell? ⟨w.heap.size + 1, 0, none⟩ = some (.float .f64 0) := HY.out.2.2.1.cell rfl
  have d1 : Y.cell? ⟨w.heap.size + 1, 1, none⟩ = some (.int .u64 0) := HY.out.2.2.1.cell rfl
  have d2 : Y.cell? ⟨w.heap.size + 1, 2, none⟩ = some (.bool false) := HY.out.2.2.1.cell rfl
  have d3 : Y.cell? ⟨w.heap.size + 1, 3, none⟩ = some (.int .u64 0) := HY.out.2.2.1.cell rfl
  have d4 : Y.cell? ⟨w.heap.size + 1, 4, none⟩ = some (.slice none 0 0) := HY.out.2.2.1.cell rfl
  have d5 : Y.cell? ⟨w.heap.size + 1, 5, none⟩ = some (.int .i64 0) := HY.out.2.2.1.cell rfl
  have e0 := HY.out.2.2.1.frozen 0
  have e1 := HY.out.2.2.1.frozen 1
  have e2 := HY.out.2.2.1.frozen 2
  have e3 := HY.out.2.2.1.frozen 3
  have e4 := HY.out.2.2.1.frozen 4
  have e5 := HY.out.2.2.1.frozen 5
  have HX : Hid (Blk Y (w.heap.size + 1) 43 (rpA 0 0 false 0 (.slice none 0 0) 0) ∧ Keeps (fun i => i = w.heap.size + 1 + 1) w1 Y) := hid HY.out.2.2
  have HE := HY.out.1
  have HP := hid (And.intro hP hD)
  clear hP hD HC HY
  subst HE
  go_wp2_with fail
  refine bodyPost_ret (reply_ret rfl _ _ (w.heap.size + 1) _ rfl (HX.out.1.set6) rfl) rfl ?_
  have kz := keeps_set6 (w1.setCell ⟨w.heap.size + 1 + 1, 5, none⟩ (.int .i64 e)) (w.heap.size + 1) (.float .f64 0) (.int .u64 0) (.bool false) (.int .u64 0) (.slice none 0 0) (.int .i64 e)
  exact ⟨e, w1, rfl, HP.out.1, (HX.out.2.mono (fun i _ e => by show w.heap.size ≤ i ∧ i ≤ w.heap.size + 1 + 1; omega)).trans (kz.mono (fun i _ e => by show w.heap.size ≤ i ∧ i ≤ w.heap.size + 1 + 1; omega))⟩
set_option maxRecDepth 100000 in
set_option maxHeartbeats 4000000 in
theorem do_other {tv : Value} {a h o kd on bits wd : Int} {w : World} (hk : kd < 1 ∨ 8 < kd) :
    Calls Try.prog 11 #[tv, .int .u64 a, .int .u64 h, .int .u64 o, stV kd on bits wd] w fun r w' => r = .returned (.agg (rpA 0 0 false 0 (.slice none 0 0) 0)) ∧ Keeps (fun _ => False) w w' := by
  have k1 : (kd == 1) = false := by simp; omega
  have k2 : (kd == 2) = false := by simp; omega
  have k3 : (kd == 3) = false := by simp; omega
  have k4 : (kd == 4) = false := by simp; omega
  have k5 : (kd == 5) = false := by simp; omega
  have k6 : (kd == 6) = false := by simp; omega
  have k7 : (kd == 7) = false := by simp; omega
  have k8 : (kd == 8) = false := by simp; omega
  have hsa := doX_at w kd on bits wd
  have HB := hid hsa.1.a
  have HK := hid hsa.2
  unfold doX at HB HK
  clear hsa hk
  unfold stV
  go_enter Try.func11, Try.ntmps11
  go_wp2_with fail
  refine bodyPost_ret (reply_ret rfl _ _ (w.heap.size + 1) _ rfl HB.out rfl) rfl ?_
  exact ⟨rfl, HK.out⟩
end Go.Proofs.Ytalopkllldnipaa
