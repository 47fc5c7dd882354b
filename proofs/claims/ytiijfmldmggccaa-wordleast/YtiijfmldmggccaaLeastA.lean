/- The law WordLeast's first loop: seven rows of the call's own. No statement of the seat is proved here. -/
import Derived.Test.YtiijfmldmggccaaLeastR
import Derived.Test.YtiijfmldmggccaaPush
import Derived.Test.YtiijfmldmggccaaBack
import Derived.Deep.QuietTactic
namespace Go.Proofs.Ytiijfmldmggccaa
open Go.RowKit Ieee

def Reads (w : World) (sp : Option Addr) (ws : List Int) : Prop := ∀ i, i < ws.length → ∃ b o, sp = some ⟨b, o, none⟩ ∧ w.cell? ⟨b, o + i, none⟩ = some (.int .u64 (ws[i]?.getD 0))

theorem Reads.kept {w w' : World} {sp : Option Addr} {ws : List Int} (h : Reads w sp ws) (k : Keeps (fun _ => False) w w') : Reads w' sp ws := fun i hi => by
  obtain ⟨b, o, rfl, h1⟩ := h i hi
  exact ⟨b, o, rfl, (World.cell?_of_block (w := w) (k.block _ (World.block_lt_of_cell? _ _ h1) (fun f => f))).trans h1⟩

def Turned (ys zs : List Nat) : Prop := ∀ (j y z : Nat), ys[j]? = some y → zs[j]? = some z → y < 4294967296 ∧ ∃ V, z = c64 y V
def reals (bs : List Nat) : List Value := bs.map (Value.float .f64)
def smalls (bs : List Nat) : List Value := bs.map (Value.float .f32)
def ints (k : IntKind) (bs : List Int) : List Value := bs.map (fun w => Value.int k (k.wrap w))
theorem wrap32_eq (n : Int) : IntKind.i32.wrap n = wrap32 n := by rw [wrap_i32, wrap32]
theorem wrap64_eq (n : Int) : IntKind.i64.wrap n = wrap64 n := by rw [wrap_i64, wrap64]

structure Seven (W : World) (ws : List Int) (k : Nat) (a b c d e f g : Value) (wr : World) (ys zs : List Nat) : Prop where
  le : k ≤ ws.length
  ly : ys.length = k
  lz : zs.length = k
  turned : Turned ys zs
  rows : Lies wr W.heap.size [⟨32, a, k, reals ((ws.take k).map Int.toNat)⟩, ⟨53, b, k, smalls ys⟩, ⟨32, c, k, reals zs⟩, ⟨54, d, k, ints .i8 (ws.take k)⟩, ⟨55, e, k, ints .i16 (ws.take k)⟩, ⟨21, f, k, ints .i32 (ws.take k)⟩, ⟨2, g, k, ints .i64 (ws.take k)⟩]
  keeps : Keeps (fun _ => False) W wr
  nil : k = 0 → a = .slice none 0 0 ∧ b = .slice none 0 0 ∧ c = .slice none 0 0 ∧ d = .slice none 0 0 ∧ e = .slice none 0 0 ∧ f = .slice none 0 0 ∧ g = .slice none 0 0

theorem seven_nil (W : World) (ws : List Int) : Seven W ws 0 (.slice none 0 0) (.slice none 0 0) (.slice none 0 0) (.slice none 0 0) (.slice none 0 0) (.slice none 0 0) (.slice none 0 0) W [] [] := by
  refine ⟨Nat.zero_le _, rfl, rfl, fun j y z h _ => by simp at h, ⟨?_, ?_⟩, Keeps.refl _ _, fun _ => ⟨rfl, rfl, rfl, rfl, rfl, rfl, rfl⟩⟩
  · intro i r hr
    have : r.v = .slice none 0 0 ∧ r.n = 0 ∧ r.xs = [] := by
      match i with
      | 0 | 1 | 2 | 3 | 4 | 5 | 6 => simp at hr; subst hr; exact ⟨rfl, rfl, rfl⟩
      | i + 7 => simp at hr
    obtain ⟨h1, h2, h3⟩ := this
    rw [h1, h2, h3]; exact World.ownsRow_nil _ _ _ _
  · intro i j r s hr _ _ g hg
    have : r.v = .slice none 0 0 := by
      match i with
      | 0 | 1 | 2 | 3 | 4 | 5 | 6 => simp at hr; subst hr; rfl
      | i + 7 => simp at hr
    rw [this] at hg; cases hg


theorem push_at {W w : World} {L : List RowD} (H : Lies w W.heap.size L) (K : Keeps (fun _ => False) W w) (i : Nat) (r : RowD) (hr : L[i]? = some r) (t : TypeId) (z : Value) (bytes : Nat) (ht : Try.prog.underlying t = some (.slice r.e))
    (hinfo : (Try.prog.info? r.e).map (fun i => (i.zero, i.size, i.bytes)) = some (some z, 1, bytes)) (hzs : z.cells.size = 1) (u : Value) (h1 : u.oneCell' = true) (h63 : r.n + 1 ≤ maxLen) (hbytes : (r.n + 1) * bytes ≤ 140737488355328) :
    ∃ v' w', (Builtin.append_ #[t, t] t #[r.v, .slice (some ⟨w.heap.size, 0, none⟩) 1 1]).run Try.prog (w.alloc (.cells #[u] r.e)) = .ok v' w' ∧ Lies w' W.heap.size (L.set i ⟨r.e, v', r.n + 1, r.xs ++ [u]⟩) ∧ Keeps (fun _ => False) W w' := by
  have H' := H.alloc (.cells #[u] r.e)
  have ho := H'.own i r hr
  obtain ⟨v', w', r1, r2, r3, r4⟩ := push_row (P := Try.prog) (w.alloc (.cells #[u] r.e)) W.heap.size t t r.e z bytes ht hinfo hzs r.v r.n r.xs ho ⟨w.heap.size, 0, none⟩ u (by
    rw [cell_of_block (MapKept.heap_alloc w _).1]; rfl) h1 h63 hbytes (K.alloc (.cells #[u] r.e)).size
  exact ⟨v', w', r1, H'.grown i hr r3 r2 r4, (K.alloc _).grown r3 fun g hg => .inl (own_block ho hg).2⟩

theorem Lies.d32 {w : World} {base : Nat} {L : List RowD} (h : Lies w base L) (b : Nat) : Lies (d32 b w) base L := h.heap fun g _ => by unfold Go.Proofs.Ytiijfmldmggccaa.d32; split <;> rfl
theorem Lies.d64 {w : World} {base : Nat} {L : List RowD} (h : Lies w base L) (b : Nat) : Lies (d64 b w) base L := h.heap fun g _ => by unfold Go.Proofs.Ytiijfmldmggccaa.d64; split <;> rfl
theorem Keeps.d32 {S : Nat → Prop} {a w : World} (h : Keeps S a w) (b : Nat) : Keeps S a (d32 b w) := by unfold Go.Proofs.Ytiijfmldmggccaa.d32; split; exact h; exact h.drew
theorem Keeps.d64 {S : Nat → Prop} {a w : World} (h : Keeps S a w) (b : Nat) : Keeps S a (d64 b w) := by unfold Go.Proofs.Ytiijfmldmggccaa.d64; split; exact h.drew; exact h

theorem turned_more {ys zs : List Nat} (h : Turned ys zs) (hl : ys.length = zs.length) (y : Nat) (hy : y < 4294967296) (V : World) : Turned (ys ++ [y]) (zs ++ [c64 y V]) := by
  intro j a b ha hb
  by_cases c : j < ys.length
  · rw [List.getElem?_append_left c] at ha
    rw [List.getElem?_append_left (by omega)] at hb
    exact h j a b ha hb
  · have : j = ys.length := by
      have := (List.getElem?_eq_some_iff.1 ha).1
      simp at this; omega
    subst this
    simp at ha
    rw [hl] at hb
    simp at hb
    subst ha; subst hb
    exact ⟨hy, V, rfl⟩

theorem row_cells {w w' : World} {base : Nat} {e : TypeId} {v : Value} {n : Nat} {xs : List Value} (H : w.ownsRow base e 1 v n xs) (hn : 1 ≤ n) (K : Keeps (fun _ => False) w w') : ∃ g cap, v = .slice (some ⟨g, 0, none⟩) n cap ∧ n ≤ cap ∧ cap ≤ maxLen ∧ ∀ j, j < n → w'.cell? ⟨g, j, none⟩ = xs[j]? := by
  rcases H.2 with ⟨_, h⟩ | ⟨g, cap, cur, rfl, h1, h2, h3, h4, h5, h6⟩
  · omega
  · refine ⟨g, cap, rfl, h3, h4, fun j hj => ?_⟩
    rw [cell_of_block ((K.block g (lt_of_block h2) (fun f => f)).trans h2), ← h6, List.getElem?_take_of_lt (by omega)]
    simp
theorem reals_at {bs : List Nat} {j : Nat} (h : j < bs.length) : (reals bs)[j]? = some (.float .f64 (bs[j]?.getD 0)) := by simp [reals, h]
theorem smalls_at {bs : List Nat} {j : Nat} (h : j < bs.length) : (smalls bs)[j]? = some (.float .f32 (bs[j]?.getD 0)) := by simp [smalls, h]
theorem ints_at {k : IntKind} {bs : List Int} {j : Nat} (h : j < bs.length) : (ints k bs)[j]? = some (.int k (k.wrap (bs[j]?.getD 0))) := by simp [ints, h]

theorem c64_zero (W : World) : c64 0 W = 0 ∧ d64 0 W = W := by
  have n : nan32 0 = false := by decide
  obtain ⟨h1, h2⟩ := c64_num W n
  refine ⟨?_, h2⟩
  rw [h1, show wd (0 % 2147483648) = 0 from wd_zero]; rfl

theorem lst_pair {fs fw : Nat → Nat} (h : ∀ j, fs j < 4294967296 ∧ ∃ V, fw j = c64 (fs j) V) : ∀ k, ∃ j, j ≤ k ∧ lst ltS fs k = fs j ∧ lst ltF fw k = fw j
  | 0 => ⟨0, Nat.le_refl _, rfl, rfl⟩
  | k + 1 => by
    obtain ⟨j, hj, e1, e2⟩ := lst_pair h k
    have hq : ltF (fw (k + 1)) (lst ltF fw k) = ltS (fs (k + 1)) (lst ltS fs k) := by
      rw [e1, e2]
      obtain ⟨h1, V1, g1⟩ := h (k + 1)
      obtain ⟨h2, V2, g2⟩ := h j
      unfold ltF ltS
      rw [g1, g2]
      exact decide_eq_decide.2 (c64_order h1 h2 V1 V2)
    cases c : ltS (fs (k + 1)) (lst ltS fs k)
    · rw [c] at hq
      exact ⟨j, by omega, by rw [lst_no c, e1], by rw [lst_no hq, e2]⟩
    · rw [c] at hq
      exact ⟨k + 1, Nat.le_refl _, lst_yes c, lst_yes hq⟩

theorem turned_all {ys zs : List Nat} (h : Turned ys zs) (hl : ys.length = zs.length) (W : World) (j : Nat) : ys[j]?.getD 0 < 4294967296 ∧ ∃ V, zs[j]?.getD 0 = c64 (ys[j]?.getD 0) V := by
  by_cases c : j < ys.length
  · have e1 := List.getElem?_eq_getElem c
    have e2 := List.getElem?_eq_getElem (l := zs) (i := j) (by omega)
    have := h j _ _ e1 e2
    rw [e1, e2]; exact this
  · rw [List.getElem?_eq_none (by omega), List.getElem?_eq_none (by omega)]
    exact ⟨by decide, W, (c64_zero W).1.symm⟩

theorem c64_alike {y : Nat} (V W : World) : (nan (c64 y V) = true ∧ nan (c64 y W) = true) ∨ c64 y V = c64 y W := by
  cases n : nan32 y
  · exact .inr ((c64_num V n).1.trans (c64_num W n).1.symm)
  · exact .inl ⟨c64_nan V n, c64_nan W n⟩
theorem d64_cell (y : Nat) (w : World) (a : Addr) : (d64 y w).cell? a = w.cell? a := by unfold d64; split <;> rfl

def Drew (w w' : World) : Prop := ∃ m, w' = w.drewN m
theorem Drew.refl (w : World) : Drew w w := ⟨0, rfl⟩
theorem Keeps.cell {w w' : World} (K : Keeps (fun _ => False) w w') {a : Addr} {v : Value} (h : w.cell? a = some v) : w'.cell? a = some v :=
  (World.cell?_of_block (w := w) (K.block _ (World.block_lt_of_cell? _ _ h) (fun f => f))).trans h
theorem int_row {w w' : World} {base : Nat} {e : TypeId} {v : Value} {k : IntKind} {n : Nat} {bs : List Int} (H : w.ownsRow base e 1 v n (ints k bs)) (hl : bs.length = n) (hn : 1 ≤ n) (K : Keeps (fun _ => False) w w') :
    ∃ (g cap : Nat) (F : Nat → Int), v = .slice (some ⟨g, 0, none⟩) n cap ∧ n ≤ cap ∧ cap ≤ maxLen ∧ (∀ j : Nat, ∃ n : Int, F j = k.wrap n) ∧ ∀ j, j < n → w'.cell? ⟨g, j, none⟩ = some (.int k (F j)) := by
  obtain ⟨g, cap, rfl, h1, h2, h3⟩ := row_cells H hn K
  exact ⟨g, cap, fun j => k.wrap (bs[j]?.getD 0), rfl, h1, h2, fun j => ⟨_, rfl⟩, fun j hj => (h3 j hj).trans (ints_at (by omega))⟩
theorem b_i8 {F : Nat → Int} (h : ∀ j : Nat, ∃ n : Int, F j = IntKind.i8.wrap n) (j : Nat) : -128 ≤ F j ∧ F j < 128 := by
  obtain ⟨n, e⟩ := h j
  rw [e]; simp only [IntKind.wrap, IntKind.bits, IntKind.signed]; simp; omega
theorem b_i16 {F : Nat → Int} (h : ∀ j : Nat, ∃ n : Int, F j = IntKind.i16.wrap n) (j : Nat) : -32768 ≤ F j ∧ F j < 32768 := by
  obtain ⟨n, e⟩ := h j
  rw [e]; simp only [IntKind.wrap, IntKind.bits, IntKind.signed]; simp; omega
theorem b_i32 {F : Nat → Int} (h : ∀ j : Nat, ∃ n : Int, F j = IntKind.i32.wrap n) (j : Nat) : -2147483648 ≤ F j ∧ F j < 2147483648 := by
  obtain ⟨n, e⟩ := h j
  rw [e, wrap_i32]; omega
theorem b_i64 {F : Nat → Int} (h : ∀ j : Nat, ∃ n : Int, F j = IntKind.i64.wrap n) (j : Nat) : -9223372036854775808 ≤ F j ∧ F j < 9223372036854775808 := by
  obtain ⟨n, e⟩ := h j
  rw [e, wrap_i64]; omega
theorem lt_of_all {bs : List Nat} {m : Nat} (hm : 0 < m) (h : ∀ x ∈ bs, x < m) (j : Nat) : bs[j]?.getD 0 < m := by
  by_cases c : j < bs.length
  · rw [List.getElem?_eq_getElem c]; exact h _ (List.getElem_mem _)
  · rw [List.getElem?_eq_none (by omega)]; exact hm

set_option maxRecDepth 100000 in
set_option maxHeartbeats 1000000 in
theorem least_law (sp : Option Addr) (l c : Nat) (ws : List Int) (W : World) (hn : ws.length = l) (hr : Reads W sp ws) (hw : ∀ x ∈ ws, 0 ≤ x ∧ x < 18446744073709551616) (hb : l * 8 ≤ 140737488351232) :
    Calls Try.prog 7 #[.slice sp l c] W fun e w' => e = .returned (.bool true) ∧ Keeps (fun _ => False) W w' := by
  go_enter Try.func7, Try.ntmps7
  go_wp2_with fail
  go_loopw [3, 4, 5, 6, 7, 8, 9, 10] (fun a b c d e f g i wr => ∃ (k : Nat) (ys zs : List Nat), i = .int .i64 k ∧ Seven W ws k a b c d e f g wr ys zs) (fun _ _ _ _ _ _ _ i _ => l - (intOf i).toNat)
  case atStart => exact ⟨0, [], [], rfl, seven_nil W ws⟩
  case round =>
    obtain ⟨k, ys, zs, rfl, S⟩ := hrel
    have hk := S.le
    by_cases hlt : k < l
    · obtain ⟨b, o, rfl, hc⟩ := hr.kept S.keeps k (by omega)
      have hx := hw (ws[k]?.getD 0) (by rw [List.getElem?_eq_getElem (by omega)]; exact List.getElem_mem _)
      have HT : Hid (ws.take (k + 1) = ws.take k ++ [ws[k]?.getD 0]) := by
        show _ = _
        rw [List.take_succ_eq_append_getElem (by omega), List.getElem?_eq_getElem (by omega)]; rfl
      generalize hxe : ws[k]?.getD 0 = x at hc hx HT
      have hX : x.toNat < 18446744073709551616 := by omega
      obtain ⟨v1, w1, r1, H1, K1⟩ := push_at (S.rows.d32 x.toNat) (S.keeps.d32 x.toNat) 0 _ rfl 47 (.float .f64 0) 8 (by kernel_rfl) (by kernel_rfl) rfl (.float .f64 x.toNat) rfl (show k + 1 ≤ maxLen by simp only [maxLen]; omega) (show (k + 1) * 8 ≤ 140737488355328 by omega)
      obtain ⟨v2, w2, r2, H2, K2⟩ := push_at H1 K1 1 _ rfl 48 (.float .f32 0) 4 (by kernel_rfl) (by kernel_rfl) rfl (.float .f32 (c32 x.toNat wr)) rfl (show k + 1 ≤ maxLen by simp only [maxLen]; omega) (show (k + 1) * 4 ≤ 140737488355328 by omega)
      obtain ⟨v3, w3, r3, H3, K3⟩ := push_at (H2.d64 (c32 x.toNat wr)) (K2.d64 (c32 x.toNat wr)) 2 _ rfl 47 (.float .f64 0) 8 (by kernel_rfl) (by kernel_rfl) rfl (.float .f64 (c64 (c32 x.toNat wr) w2)) rfl (show k + 1 ≤ maxLen by simp only [maxLen]; omega) (show (k + 1) * 8 ≤ 140737488355328 by omega)
      obtain ⟨v4, w4, r4, H4, K4⟩ := push_at H3 K3 3 _ rfl 49 (.int .i8 0) 1 (by kernel_rfl) (by kernel_rfl) rfl (.int .i8 (IntKind.i8.wrap x)) rfl (show k + 1 ≤ maxLen by simp only [maxLen]; omega) (show (k + 1) * 1 ≤ 140737488355328 by omega)
      obtain ⟨v5, w5, r5, H5, K5⟩ := push_at H4 K4 4 _ rfl 50 (.int .i16 0) 2 (by kernel_rfl) (by kernel_rfl) rfl (.int .i16 (IntKind.i16.wrap x)) rfl (show k + 1 ≤ maxLen by simp only [maxLen]; omega) (show (k + 1) * 2 ≤ 140737488355328 by omega)
      obtain ⟨v6, w6, r6, H6, K6⟩ := push_at H5 K5 5 _ rfl 51 (.int .i32 0) 4 (by kernel_rfl) (by kernel_rfl) rfl (.int .i32 (wrap32 x)) rfl (show k + 1 ≤ maxLen by simp only [maxLen]; omega) (show (k + 1) * 4 ≤ 140737488355328 by omega)
      obtain ⟨v7, w7, r7, H7, K7⟩ := push_at H6 K6 6 _ rfl 52 (.int .i64 0) 8 (by kernel_rfl) (by kernel_rfl) rfl (.int .i64 (wrap64 x)) rfl (show k + 1 ≤ maxLen by simp only [maxLen]; omega) (show (k + 1) * 8 ≤ 140737488355328 by omega)
      have hc3 : w3.cell? ⟨b, o + k, none⟩ = some (.int .u64 x) := by obtain ⟨b', o', e, hq⟩ := hr.kept K3 k (by omega); cases e; rw [hxe] at hq; exact hq
      have hc4 : w4.cell? ⟨b, o + k, none⟩ = some (.int .u64 x) := by obtain ⟨b', o', e, hq⟩ := hr.kept K4 k (by omega); cases e; rw [hxe] at hq; exact hq
      have hc5 : w5.cell? ⟨b, o + k, none⟩ = some (.int .u64 x) := by obtain ⟨b', o', e, hq⟩ := hr.kept K5 k (by omega); cases e; rw [hxe] at hq; exact hq
      have hc6 : w6.cell? ⟨b, o + k, none⟩ = some (.int .u64 x) := by obtain ⟨b', o', e, hq⟩ := hr.kept K6 k (by omega); cases e; rw [hxe] at hq; exact hq
      have hS : Seven W ws (k + 1) v1 v2 v3 v4 v5 v6 v7 w7 (ys ++ [c32 x.toNat wr]) (zs ++ [c64 (c32 x.toNat wr) w2]) := by
        refine ⟨by omega, by simp [S.ly], by simp [S.lz], turned_more S.turned (S.ly.trans S.lz.symm) _ (c32_lt _ hX) _, ?_, K7, fun h => absurd h (by omega)⟩
        have e1 : reals ((ws.take (k + 1)).map Int.toNat) = reals ((ws.take k).map Int.toNat) ++ [.float .f64 x.toNat] := by rw [HT.out]; simp [reals]
        have e2 : smalls (ys ++ [c32 x.toNat wr]) = smalls ys ++ [.float .f32 (c32 x.toNat wr)] := by simp [smalls]
        have e3 : reals (zs ++ [c64 (c32 x.toNat wr) w2]) = reals zs ++ [.float .f64 (c64 (c32 x.toNat wr) w2)] := by simp [reals]
        have e4 : ints .i8 (ws.take (k + 1)) = ints .i8 (ws.take k) ++ [.int .i8 (IntKind.i8.wrap x)] := by rw [HT.out]; simp [ints]
        have e5 : ints .i16 (ws.take (k + 1)) = ints .i16 (ws.take k) ++ [.int .i16 (IntKind.i16.wrap x)] := by rw [HT.out]; simp [ints]
        have e6 : ints .i32 (ws.take (k + 1)) = ints .i32 (ws.take k) ++ [.int .i32 (wrap32 x)] := by rw [HT.out]; simp [ints, wrap32_eq]
        have e7 : ints .i64 (ws.take (k + 1)) = ints .i64 (ws.take k) ++ [.int .i64 (wrap64 x)] := by rw [HT.out]; simp [ints, wrap64_eq]
        rw [e1, e2, e3, e4, e5, e6, e7]
        exact H7
      replace hS : Hid _ := hS
      clear H1 H2 H3 H4 H5 H6 H7 K1 K2 K3 K4 K5 K6 K7 S hxe HT
      go_wp2_with (at_builtin; first
        | (refine wpList_append_run rfl _ _ 47 rfl _ _ _ _ rfl rfl r1 ?_; clear r1)
        | (refine wpList_append_run rfl _ _ 48 rfl _ _ _ _ rfl rfl r2 ?_; clear r2)
        | (refine wpList_append_run rfl _ _ 47 rfl _ _ _ _ rfl rfl r3 ?_; clear r3)
        | (refine wpList_append_run rfl _ _ 49 rfl _ _ _ _ rfl rfl r4 ?_; clear r4)
        | (refine wpList_append_run rfl _ _ 50 rfl _ _ _ _ rfl rfl r5 ?_; clear r5)
        | (refine wpList_append_run rfl _ _ 51 rfl _ _ _ _ rfl rfl r6 ?_; clear r6)
        | (refine wpList_append_run rfl _ _ 52 rfl _ _ _ _ rfl rfl r7 ?_; clear r7))
      go_round
      case rel => exact ⟨k + 1, _, _, by go_num, hS.out⟩
      case measure => simp [intOf]; omega
    · obtain rfl : k = l := by omega
      subst hn
      by_cases hz : ws.length = 0
      · obtain ⟨rfl, rfl, rfl, rfl, rfl, rfl, rfl⟩ := S.nil hz
        have KW := S.keeps
        obtain ⟨i0, hi, _, _, _⟩ := info_parts (show (Try.prog.info? 32).map (fun i => (i.zero, i.size, i.bytes)) = some (some (.float .f64 0), 1, 8) by kernel_rfl)
        have r8 : (Builtin.append_ #[47, 47] 47 #[.slice none 0 0, .slice none 0 0]).run Try.prog wr = .ok (.slice none 0 0) wr :=
          run_append_nothing wr 47 47 47 32 i0 (by kernel_rfl) hi none 0 0 (Nat.le_refl _) _ (Src.ofNil wr (e' := 32) (by kernel_rfl) 0)
        have z0 := (c64_zero wr).1
        have z1 := (c64_zero wr).2
        clear S hk hr hw hi hb
        obtain ⟨w0, hw0⟩ : ∃ w0, w0 = wr := ⟨_, rfl⟩
        subst hw0
        generalize ws.length = l at *
        subst hz
        go_wp2_with (at_builtin; refine wpList_append_run rfl _ _ 47 rfl _ _ _ _ rfl rfl r8 ?_; clear r8)
        refine (least_f64_nil _).mono ?_
        rintro e w' ⟨rfl, rfl⟩
        go_wp2_with fail
        refine (rleast_nil _).mono ?_
        rintro e w' ⟨rfl, rfl⟩
        go_wp2_with fail
        refine (least_f32_nil _).mono ?_
        rintro e w' ⟨rfl, rfl⟩
        go_wp2_with fail
        refine (rleast_nil _).mono ?_
        rintro e w' ⟨rfl, rfl⟩
        go_wp2_with fail
        refine (ref_alike 0 0 _ (by omega) (by omega) (Or.inr rfl)).mono ?_
        rintro e w' ⟨rfl, rfl⟩
        go_wp2_with fail
        refine (ref_alike 0 0 _ (by omega) (by omega) (Or.inr rfl)).mono ?_
        rintro e w' ⟨rfl, rfl⟩
        clear z0 z1
        go_wp2_with fail
        go_loop [22] (fun i => i = .int .i64 0) (fun _ => 0)
        case atStart => exact rfl
        case round =>
          obtain rfl := hrel
          go_wp2_with fail
          refine (least_i8_nil _).mono ?_
          rintro e w' ⟨rfl, rfl⟩
          go_wp2_with fail
          refine (least_i16_nil _).mono ?_
          rintro e w' ⟨rfl, rfl⟩
          go_wp2_with fail
          refine (least_i32_nil _).mono ?_
          rintro e w' ⟨rfl, rfl⟩
          go_wp2_with fail
          refine (least_i64_nil _).mono ?_
          rintro e w' ⟨rfl, rfl⟩
          go_wp2_with fail
          go_loop [31] (fun i => i = .int .i64 0) (fun _ => 0)
          case atStart => exact rfl
          case round =>
            obtain rfl := hrel
            go_wp2_with fail
            refine (among_i8_nil _).mono ?_
            rintro e w' ⟨rfl, rfl⟩
            go_wp2_with fail
            refine (among_i16_nil _).mono ?_
            rintro e w' ⟨rfl, rfl⟩
            go_wp2_with fail
            refine (among_i32_nil _).mono ?_
            rintro e w' ⟨rfl, rfl⟩
            go_wp2_with fail
            refine (among_i64_nil _).mono ?_
            rintro e w' ⟨rfl, rfl⟩
            go_wp2_with fail
            refine (known_any _).mono ?_
            rintro e w' ⟨rfl, rfl⟩
            go_wp2_with fail
            go_ret
            exact ⟨rfl, KW⟩
      · have h1 : 1 ≤ ws.length := by omega
        -- the rows, and the copy
        have H0 := S.rows.own 0 _ rfl
        obtain ⟨i0, hi, hz0, hz1, hz2⟩ := info_parts (show (Try.prog.info? 32).map (fun i => (i.zero, i.size, i.bytes)) = some (some (.float .f64 0), 1, 8) by kernel_rfl)
        obtain ⟨g1, p1, e1, c1, m1, x1⟩ := row_cells H0 h1 (Keeps.refl _ wr)
        have hbs : ((ws.take ws.length).map Int.toNat).length = ws.length := by simp
        obtain ⟨v8, w8, r8, o8, gr8, _⟩ := run_append_own (P := Try.prog) wr wr.heap.size 47 47 32 i0 (.float .f64 0) 1 8 (by kernel_rfl) hi hz0 hz1 hz2 rfl (by decide) (.slice none 0 0) 0 [] (World.ownsRow_nil _ _ _ _) ⟨g1, 0, none⟩ ws.length p1 (reals ((ws.take ws.length).map Int.toNat)) (by simp [reals]) (fun j u hj => by
          have : j < ws.length := by have := (List.getElem?_eq_some_iff.1 hj).1; simpa [reals] using this
          rw [addr_add, Nat.zero_add, x1 j this]; exact hj) (by simp [reals, Value.oneCell']) (by simp only [maxLen]; omega) (by omega) (Nat.le_refl _)
        have K8 : Keeps (fun _ => False) wr w8 := (Keeps.refl _ wr).grown gr8 (fun _ h => by cases h)
        have KW : Keeps (fun _ => False) W w8 := S.keeps.trans K8
        simp only [Nat.zero_add, List.nil_append] at o8
        have hl : (ws.take ws.length).length = ws.length := by simp
        have hB : ∀ x ∈ (ws.take ws.length).map Int.toNat, x < 18446744073709551616 := by
          intro x hx
          obtain ⟨y, hy, rfl⟩ := List.mem_map.1 hx
          have := hw y (List.mem_of_mem_take hy); omega
        have FB := lt_of_all (by omega) hB
        obtain ⟨g8, p8, e8, c8, m8, x8⟩ := row_cells o8 h1 (Keeps.refl _ w8)
        obtain ⟨g2, p2, e2, c2, m2, x2⟩ := row_cells (S.rows.own 1 _ rfl) h1 K8
        obtain ⟨g3, p3, e3, c3, m3, x3⟩ := row_cells (S.rows.own 2 _ rfl) h1 K8
        obtain ⟨g4, p4, F4, e4, c4, m4, f4, x4⟩ := int_row (S.rows.own 3 _ rfl) hl h1 K8
        obtain ⟨g5, p5, F5, e5, c5, m5, f5, x5⟩ := int_row (S.rows.own 4 _ rfl) hl h1 K8
        obtain ⟨g6, p6, F6, e6, c6, m6, f6, x6⟩ := int_row (S.rows.own 5 _ rfl) hl h1 K8
        obtain ⟨g7, p7, F7, e7, c7, m7, f7, x7⟩ := int_row (S.rows.own 6 _ rfl) hl h1 K8
        have pair := lst_pair (fun j => turned_all S.turned (S.ly.trans S.lz.symm) W j) (ws.length - 1)
        have all := fun j => turned_all S.turned (S.ly.trans S.lz.symm) W j
        have X1 : ∀ j, j < ws.length → w8.cell? ⟨g1, j, none⟩ = some (.float .f64 (((ws.take ws.length).map Int.toNat)[j]?.getD 0)) := fun j hj => K8.cell ((x1 j hj).trans (reals_at (by simpa using hj)))
        have X8 : ∀ j, j < ws.length → w8.cell? ⟨g8, j, none⟩ = some (.float .f64 (((ws.take ws.length).map Int.toNat)[j]?.getD 0)) := fun j hj => (x8 j hj).trans (reals_at (by simpa using hj))
        have X2 : ∀ j, j < ws.length → w8.cell? ⟨g2, j, none⟩ = some (.float .f32 (ys[j]?.getD 0)) := fun j hj => (x2 j hj).trans (smalls_at (by rw [S.ly]; exact hj))
        have X3 : ∀ j, j < ws.length → w8.cell? ⟨g3, j, none⟩ = some (.float .f64 (zs[j]?.getD 0)) := fun j hj => (x3 j hj).trans (reals_at (by rw [S.lz]; exact hj))
        clear x1 x2 x3 x8 o8 hB K8 gr8 H0 S
        dsimp only at e1 e2 e3 e4 e5 e6 e7 e8 c1 c2 c3 c4 c5 c6 c7 c8 m1 m2 m3 m4 m5 m6 m7 m8 x4 x5 x6 x7
        subst e1 e2 e3 e4 e5 e6 e7 e8
        have FZ : ∀ j : Nat, zs[j]?.getD 0 < 18446744073709551616 := fun j => by obtain ⟨_, V, e⟩ := all j; rw [e]; exact c64_lt _ _
        have FY : ∀ j : Nat, ys[j]?.getD 0 < 4294967296 := fun j => (all j).1
        obtain ⟨fB, hfB⟩ : ∃ f : Nat → Nat, ∀ j : Nat, ((ws.take ws.length).map Int.toNat)[j]?.getD 0 = f j := ⟨_, fun _ => rfl⟩
        simp only [hfB] at FB X1 X8
        obtain ⟨q, hq, q1, q2⟩ := pair
        obtain ⟨_, V, q3⟩ := all q
        clear all hfB
        generalize hy : (fun j : Nat => ys[j]?.getD 0) = fY at q1
        generalize hzz : (fun j : Nat => zs[j]?.getD 0) = fZ at q2
        have X2' : ∀ j, j < ws.length → w8.cell? ⟨g2, j, none⟩ = some (.float .f32 (fY j)) := by rw [← hy]; exact X2
        have X3' : ∀ j, j < ws.length → w8.cell? ⟨g3, j, none⟩ = some (.float .f64 (fZ j)) := by rw [← hzz]; exact X3
        have FY' : ∀ j, fY j < 4294967296 := by rw [← hy]; exact FY
        have FZ' : ∀ j, fZ j < 18446744073709551616 := by rw [← hzz]; exact FZ
        clear X2 X3 hy hzz
        have AL : (nan (c64 (lst ltS fY (ws.length - 1)) w8) = true ∧ nan (lst ltF fZ (ws.length - 1)) = true) ∨ c64 (lst ltS fY (ws.length - 1)) w8 = lst ltF fZ (ws.length - 1) := by
          rw [q1, q2, q3]; exact c64_alike w8 V
        have AZ : lst ltF fZ (ws.length - 1) < 18446744073709551616 := by rw [q2]; exact FZ q
        have AB : lst ltF fB (ws.length - 1) < 18446744073709551616 := by obtain ⟨j, _, e⟩ := lst_among ltF fB (ws.length - 1); rw [e]; exact FB j
        clear q1 q2 q3 hq FY FZ
        generalize hlen : ws.length = l at *
        clear hlen
        have h64 : l ≤ 9223372036854775807 := by omega
        have B4 := b_i8 f4
        have B5 := b_i16 f5
        have B6 := b_i32 f6
        have B7 := b_i64 f7
        obtain ⟨w0, hw0⟩ : ∃ w0, w0 = wr := ⟨_, rfl⟩
        subst hw0
        go_wp2_with (at_builtin; refine wpList_append_run rfl _ _ 47 rfl _ _ _ _ rfl rfl r8 ?_; clear r8)
        refine (least_f64 g1 l p1 fB _ h1 c1 m1 FB X1).mono ?_
        rintro e w' ⟨rfl, rfl⟩
        go_wp2_with fail
        refine (rleast g1 l p1 fB _ h1 c1 m1 FB X1).mono ?_
        rintro e w' ⟨rfl, rfl⟩
        go_wp2_with fail
        refine (least_f32 g2 l p2 fY _ h1 c2 m2 FY' X2').mono ?_
        rintro e w' ⟨rfl, rfl⟩
        go_wp2_with fail
        refine (rleast g3 l p3 fZ _ h1 c3 m3 FZ' X3').mono ?_
        rintro e w' ⟨rfl, rfl⟩
        clear X2' X3' FY' FZ'
        go_wp2_with fail
        refine (ref_alike _ _ _ AB AB (Or.inr rfl)).mono ?_
        rintro e w' ⟨rfl, rfl⟩
        go_wp2_with fail
        refine (ref_alike _ _ _ (c64_lt _ _) AZ AL).mono ?_
        rintro e w9 ⟨rfl, rfl⟩
        replace KW := KW.d64 (lst ltS fY (l - 1))
        replace X1 : ∀ j, j < l → (d64 (lst ltS fY (l - 1)) w').cell? ⟨g1, j, none⟩ = some (.float .f64 (fB j)) := fun j hj => (d64_cell _ _ _).trans (X1 j hj)
        replace X8 : ∀ j, j < l → (d64 (lst ltS fY (l - 1)) w').cell? ⟨g8, j, none⟩ = some (.float .f64 (fB j)) := fun j hj => (d64_cell _ _ _).trans (X8 j hj)
        replace x4 : ∀ j, j < l → (d64 (lst ltS fY (l - 1)) w').cell? ⟨g4, j, none⟩ = some (.int .i8 (F4 j)) := fun j hj => (d64_cell _ _ _).trans (x4 j hj)
        replace x5 : ∀ j, j < l → (d64 (lst ltS fY (l - 1)) w').cell? ⟨g5, j, none⟩ = some (.int .i16 (F5 j)) := fun j hj => (d64_cell _ _ _).trans (x5 j hj)
        replace x6 : ∀ j, j < l → (d64 (lst ltS fY (l - 1)) w').cell? ⟨g6, j, none⟩ = some (.int .i32 (F6 j)) := fun j hj => (d64_cell _ _ _).trans (x6 j hj)
        replace x7 : ∀ j, j < l → (d64 (lst ltS fY (l - 1)) w').cell? ⟨g7, j, none⟩ = some (.int .i64 (F7 j)) := fun j hj => (d64_cell _ _ _).trans (x7 j hj)
        clear AL AZ AB
        generalize d64 (lst ltS fY (l - 1)) w' = w9 at *
        go_wp2_with fail
        go_loopw [22] (fun i wr => ∃ k : Nat, k ≤ l ∧ i = .int .i64 k ∧ Drew w9 wr) (fun i _ => l - (intOf i).toNat)
        case atStart => exact ⟨0, by omega, rfl, Drew.refl _⟩
        case round =>
          obtain ⟨k, hk, rfl, mm, rfl⟩ := hrel
          by_cases hlt : k < l
          · have d1 := X1 k hlt
            have d8 := X8 k hlt
            go_wp2_with fail
            go_quiet ((go_at_call 27; exact (ref_alike _ _ _ (FB k) (FB k) (Or.inr rfl)).mono (fun _ _ ⟨h1, h2⟩ => ⟨h1, _, h2⟩)))
            go_wp2_with fail
            go_roundw
            case rel => exact ⟨k + 1, by omega, by go_num, ⟨_, rfl⟩⟩
            case measure => simp [intOf]; omega
          · obtain rfl : k = l := by omega
            replace KW : Keeps (fun _ => False) W (w9.drewN mm) := KW.drewN mm
            replace x4 : ∀ j, j < k → (w9.drewN mm).cell? ⟨g4, j, none⟩ = some (.int .i8 (F4 j)) := x4
            replace x5 : ∀ j, j < k → (w9.drewN mm).cell? ⟨g5, j, none⟩ = some (.int .i16 (F5 j)) := x5
            replace x6 : ∀ j, j < k → (w9.drewN mm).cell? ⟨g6, j, none⟩ = some (.int .i32 (F6 j)) := x6
            replace x7 : ∀ j, j < k → (w9.drewN mm).cell? ⟨g7, j, none⟩ = some (.int .i64 (F7 j)) := x7
            clear X1 X8
            generalize w9.drewN mm = w10 at *
            go_wp2_with fail
            refine (least_i8 g4 k p4 F4 _ h1 c4 m4 B4 x4).mono ?_
            rintro e w' ⟨rfl, rfl⟩
            go_wp2_with fail
            refine (least_i16 g5 k p5 F5 _ h1 c5 m5 B5 x5).mono ?_
            rintro e w' ⟨rfl, rfl⟩
            go_wp2_with fail
            refine (least_i32 g6 k p6 F6 _ h1 c6 m6 B6 x6).mono ?_
            rintro e w' ⟨rfl, rfl⟩
            go_wp2_with fail
            refine (least_i64 g7 k p7 F7 _ h1 c7 m7 B7 x7).mono ?_
            rintro e w' ⟨rfl, rfl⟩
            have L4 := fun j hj => lst_le F4 (k - 1) j hj
            have L5 := fun j hj => lst_le F5 (k - 1) j hj
            have L6 := fun j hj => lst_le F6 (k - 1) j hj
            have L7 := fun j hj => lst_le F7 (k - 1) j hj
            obtain ⟨j4, a4, b4⟩ := lst_among ltI F4 (k - 1)
            obtain ⟨j5, a5, b5⟩ := lst_among ltI F5 (k - 1)
            obtain ⟨j6, a6, b6⟩ := lst_among ltI F6 (k - 1)
            obtain ⟨j7, a7, b7⟩ := lst_among ltI F7 (k - 1)
            replace b4 : Hid (_ = _) := b4
            replace b5 : Hid (_ = _) := b5
            replace b6 : Hid (_ = _) := b6
            replace b7 : Hid (_ = _) := b7
            generalize lst ltI F4 (k - 1) = q4 at *
            generalize lst ltI F5 (k - 1) = q5 at *
            generalize lst ltI F6 (k - 1) = q6 at *
            generalize lst ltI F7 (k - 1) = q7 at *
            go_wp2_with fail
            go_loop [31] (fun i => ∃ n : Nat, n ≤ k ∧ i = .int .i64 n) (fun i => k - (intOf i).toNat)
            case atStart => exact ⟨0, by omega, rfl⟩
            case round =>
              obtain ⟨n, hn, rfl⟩ := hrel
              by_cases hlt : n < k
              · have d4 := x4 n hlt
                have d5 := x5 n hlt
                have d6 := x6 n hlt
                have d7 := x7 n hlt
                have l4 := L4 n (by omega)
                have l5 := L5 n (by omega)
                have l6 := L6 n (by omega)
                have l7 := L7 n (by omega)
                clear L4 L5 L6 L7
                go_wp2_with fail
                go_round
                case rel => exact ⟨n + 1, by omega, by go_num⟩
                case measure => simp [intOf]; omega
              · obtain rfl : n = k := by omega
                clear L4 L5 L6 L7
                go_wp2_with fail
                refine (among_i8 g4 n p4 F4 _ q4 j4 (by omega) b4.out.symm c4 m4 x4).mono ?_
                rintro e w' ⟨rfl, rfl⟩
                go_wp2_with fail
                refine (among_i16 g5 n p5 F5 _ q5 j5 (by omega) b5.out.symm c5 m5 x5).mono ?_
                rintro e w' ⟨rfl, rfl⟩
                go_wp2_with fail
                refine (among_i32 g6 n p6 F6 _ q6 j6 (by omega) b6.out.symm c6 m6 x6).mono ?_
                rintro e w' ⟨rfl, rfl⟩
                go_wp2_with fail
                refine (among_i64 g7 n p7 F7 _ q7 j7 (by omega) b7.out.symm c7 m7 x7).mono ?_
                rintro e w' ⟨rfl, rfl⟩
                go_wp2_with fail
                refine (known_any _).mono ?_
                rintro e w' ⟨rfl, rfl⟩
                go_wp2_with fail
                go_ret
                exact ⟨rfl, KW⟩
end Go.Proofs.Ytiijfmldmggccaa
