
/- The document's Sights where something is wrong; places compared; a sight stored whole (layer 16). No statement of the seat is proved here. -/
import Derived.Test.YtjmmjkoloioddaaDoorM34EvDg
import Derived.Deep.MidRow
namespace Go.Proofs.YtjmmjkoloioddaaDoor
open Go.RowKit Go.Shelf

set_option maxRecDepth 100000 in
set_option maxHeartbeats 8000000 in
@[go_sem] theorem eq_odd (a b c d : Int) (w : World) : (Op.equalIn 10000 28 (.agg #[.int .i64 a, .int .i64 b]) (.agg #[.int .i64 c, .int .i64 d])).run Tryd.prog w = .ok (a == c && b == d) w := by
  have u3 := Tryd.underlying3
  have a3 := Tryd.isAgg3
  have z3 := Tryd.sizeOf3
  have u4 := Tryd.underlying26
  have a4 := Tryd.isAgg26
  have z4 := Tryd.sizeOf26
  have hS : Tryd.prog.underlying 28 = some (.struct (Tryd.prog.fieldsOf 28)) := by kernel_rfl
  rw [show (10000 : Nat) = 9999 + 1 from rfl, run_equalIn_agg w 9999 28 _ _ hS (by kernel_rfl)]
  simp only [Program.fieldsOf, Tryd.underlying28]
  go_simp
  by_cases h1 : a = c <;> by_cases h2 : b = d <;> simp [h1, h2]
set_option maxRecDepth 100000 in
set_option maxHeartbeats 8000000 in
theorem rsights_no (va : Option Addr) (vc n : Nat) (v : Value) (hv : ∃ a m c, v = .slice a m c) (a e : Int) (he : e ≠ 0) (w : World)
    (LK : Calls Tryd.prog 16 #[.slice va n vc, v] (w.alloc (.cells (odV 0 0) 28)) fun ex w' => ex = .returned (.agg (odV a e)) ∧ Keeps (fun _ => False) (w.alloc (.cells (odV 0 0) 28)) w') :
    Calls Tryd.prog 7 #[.slice va n vc, v] w fun ex w' => ex = .returned (.tuple #[.slice none 0 0, .agg (odV a e)]) ∧ Keeps (fun _ => False) w w' := by
  have k0 := (Keeps.refl (fun _ => False) w).alloc (.cells (odV 0 0) 28)
  have b0 : (w.alloc (.cells (odV 0 0) 28)).heap[w.heap.size]? = some (.cells (odV 0 0) 28 (0, 0)) := (MapKept.heap_alloc w _).1
  obtain ⟨a1, m1, cap1, rfl⟩ := hv
  unfold odV at LK k0 b0 ⊢
  have hzb : (e == 0) = false := by rw [beq_eq_false_iff_ne]; exact he
  have hzn : (e != 0) = true := by rw [bne_iff_ne]; exact he
  go_enter Tryd.func7, Tryd.ntmps7
  go_wp2_with fail
  refine LK.mono ?_
  rintro ex w1 ⟨rfl, k1⟩
  clear LK
  have K1 := k0.trans k1
  have B1 := (k1.block _ (lt_of_block b0) (fun f => f)).trans b0
  have kA := (Keeps.refl (fun _ => False) w1).alloc (.cells #[.int .i64 a, .int .i64 e] 28)
  have bA := (MapKept.heap_alloc w1 (.cells #[.int .i64 a, .int .i64 e] 28)).1
  have B2 := (kA.block _ (lt_of_block B1) (fun f => f)).trans B1
  have hlt1 := lt_of_block B1
  go_wp2_with fail
  obtain ⟨ob7, hob⟩ : ∃ b, b = w1.heap.size := ⟨_, rfl⟩
  rw [← hob] at bA hlt1 ⊢
  generalize hW : w1.alloc (.cells #[.int .i64 a, .int .i64 e] 28) = W at *
  have c0 : W.cell? ⟨w.heap.size, 0, none⟩ = some (.int .i64 0) := by rw [cell_of_block B2]; rfl
  have c1 : W.cell? ⟨w.heap.size, 1, none⟩ = some (.int .i64 0) := by rw [cell_of_block B2]; rfl
  have f0 : W.frozen? ⟨w.heap.size, 0, none⟩ = false := frozen_of_block B2 _
  have f1 : W.frozen? ⟨w.heap.size, 1, none⟩ = false := frozen_of_block B2 _
  have hS0 : W.cell? ⟨ob7, 0, none⟩ = some (.int .i64 a) ∧ W.cell? ⟨ob7, 1, none⟩ = some (.int .i64 e) := ⟨by rw [cell_of_block bA]; rfl, by rw [cell_of_block bA]; rfl⟩
  have hne : ¬ w.heap.size = ob7 := by omega
  have BE : Hid (∀ X : World, X.heap = W.heap → ((X.setCell ⟨w.heap.size, 0, none⟩ (.int .i64 a)).setCell ⟨w.heap.size, 1, none⟩ (.int .i64 e)).heap[w.heap.size]? = some (.cells #[.int .i64 a, .int .i64 e] 28 (0, 0))) := fun X hX => block_set (block_set (w := X) (by rw [hX]; exact B2) 0 (.int .i64 a)) 1 (.int .i64 e)
  have KE := K1.trans kA
  clear hW kA bA B2 K1 hob
  go_region_held3 (fun W : World => W.cell? ⟨ob7, 0, none⟩ = some (.int .i64 a) ∧ W.cell? ⟨ob7, 1, none⟩ = some (.int .i64 e)) (first | assumption | (exact hS0) | go_keep) (fail)
  go_wp2_with fail
  refine bodyPost_ret (odd_ret2 rfl _ _ w.heap.size #[.int .i64 a, .int .i64 e] (BE.out W rfl) rfl rfl) rfl ?_
  exact ⟨rfl, (((KE.setCell (.inl (Nat.le_refl _)) _).setCell (.inl (Nat.le_refl _)) _).drew)⟩
theorem there_ofS {w : World} {g off n : Nat} {cur : Array Value} {t : TypeId} (hb : w.heap[g]? = some (.cells cur t (0, 0))) (h : off + n ≤ cur.size) : w.there g off n := fun j hj => by
  refine ⟨?_, frozen_of_block hb _⟩
  rw [cell_of_block hb, Array.getElem?_eq_getElem (by omega)]
  rfl
theorem cells_keepsS {g : Nat} : ∀ (vs : List Value) (o : Nat) (w : World), Keeps (fun q => q = g) w (w.setCells g o vs)
  | [], _, w => Keeps.refl _ w
  | v :: vs, o, w => ((Keeps.refl (fun q => q = g) w).setCell (p := ⟨g, o, none⟩) (.inr rfl) v).trans (cells_keepsS vs (o + 1) _)
/-- The sight that the law writes over others. -/
def sg9 : Sg := ⟨⟨0, 0, 0, 0, 0, 0, 0⟩, 0, 0, -9⟩
def sg0 : Sg := ⟨⟨0, 0, 0, 0, 0, 0, 0⟩, 0, 0, 0⟩
theorem OwnR.setSg {w : World} {base g n cap : Nat} {L : List Sg} (h : SR w base (.slice (some ⟨g, 0, none⟩) n cap) L) (k : Nat) (y : Sg) (hk : k < L.length) :
    SR (w.setCells g (k * 10) y.cl) base (.slice (some ⟨g, 0, none⟩) n cap) (L.set k y) := by
  obtain ⟨z, hz⟩ : ∃ z, L[k] = z := ⟨_, rfl⟩
  have a0 := h.set sg_len k 0 ⟨⟨y.t.th, z.t.fi, z.t.la, z.t.sn, z.t.how, z.t.rd, z.t.wr⟩, z.fr, z.up, z.at_⟩ (.int .i64 y.t.th) (by simpa using hk) (by decide) (by rw [hz]; rfl)
  have a1 := a0.set sg_len k 1 ⟨⟨y.t.th, y.t.fi, z.t.la, z.t.sn, z.t.how, z.t.rd, z.t.wr⟩, z.fr, z.up, z.at_⟩ (.int .i64 y.t.fi) (by simpa using hk) (by decide) (by rw [List.getElem_set_self]; rfl)
  have a2 := a1.set sg_len k 2 ⟨⟨y.t.th, y.t.fi, y.t.la, z.t.sn, z.t.how, z.t.rd, z.t.wr⟩, z.fr, z.up, z.at_⟩ (.int .i64 y.t.la) (by simpa using hk) (by decide) (by rw [List.getElem_set_self]; rfl)
  have a3 := a2.set sg_len k 3 ⟨⟨y.t.th, y.t.fi, y.t.la, y.t.sn, z.t.how, z.t.rd, z.t.wr⟩, z.fr, z.up, z.at_⟩ (.int .u64 y.t.sn) (by simpa using hk) (by decide) (by rw [List.getElem_set_self]; rfl)
  have a4 := a3.set sg_len k 4 ⟨⟨y.t.th, y.t.fi, y.t.la, y.t.sn, y.t.how, z.t.rd, z.t.wr⟩, z.fr, z.up, z.at_⟩ (.int .i64 y.t.how) (by simpa using hk) (by decide) (by rw [List.getElem_set_self]; rfl)
  have a5 := a4.set sg_len k 5 ⟨⟨y.t.th, y.t.fi, y.t.la, y.t.sn, y.t.how, y.t.rd, z.t.wr⟩, z.fr, z.up, z.at_⟩ (.int .i64 y.t.rd) (by simpa using hk) (by decide) (by rw [List.getElem_set_self]; rfl)
  have a6 := a5.set sg_len k 6 ⟨⟨y.t.th, y.t.fi, y.t.la, y.t.sn, y.t.how, y.t.rd, y.t.wr⟩, z.fr, z.up, z.at_⟩ (.int .i64 y.t.wr) (by simpa using hk) (by decide) (by rw [List.getElem_set_self]; rfl)
  have a7 := a6.set sg_len k 7 ⟨⟨y.t.th, y.t.fi, y.t.la, y.t.sn, y.t.how, y.t.rd, y.t.wr⟩, y.fr, z.up, z.at_⟩ (.int .i64 y.fr) (by simpa using hk) (by decide) (by rw [List.getElem_set_self]; rfl)
  have a8 := a7.set sg_len k 8 ⟨⟨y.t.th, y.t.fi, y.t.la, y.t.sn, y.t.how, y.t.rd, y.t.wr⟩, y.fr, y.up, z.at_⟩ (.int .i64 y.up) (by simpa using hk) (by decide) (by rw [List.getElem_set_self]; rfl)
  have a9 := a8.set sg_len k 9 y (.int .i64 y.at_) (by simpa using hk) (by decide) (by rw [List.getElem_set_self]; rfl)
  simp only [List.set_set] at a9
  exact a9
theorem run_set_sg {w : World} {base g n cap : Nat} {L : List Sg} (h : SR w base (.slice (some ⟨g, 0, none⟩) n cap) L) (k : Nat) (hk : k < L.length) :
    ∃ w', (Instr.storeAt 40 (.pointer (some ⟨g, k * 10, none⟩)) (.agg #[.int .i64 0, .int .i64 0, .int .i64 0, .int .u64 0, .int .i64 0, .int .i64 0, .int .i64 0, .int .i64 0, .int .i64 0, .int .i64 (-9)])).run Tryd.prog w = .ok () w' ∧ SR w' base (.slice (some ⟨g, 0, none⟩) n cap) (L.set k sg9) ∧ Keeps (fun q => q = g) w w' := by
  obtain ⟨g', cap', cur, hv, hb1, hb2, hb3⟩ := h.at (by omega)
  simp only [Value.slice.injEq, Option.some.injEq, Addr.mk.injEq, and_true] at hv
  obtain ⟨rfl, -, -⟩ := hv
  refine ⟨_, run_storeAt_mid w g (k * 10) 40 _ (there_ofS hb2 ?_) (by kernel_rfl) (by kernel_rfl), h.setSg k sg9 hk, cells_keepsS _ _ _⟩
  have := Nat.mul_le_mul_right 10 (show k + 1 ≤ L.length from hk)
  simp at this ⊢
  omega
end Go.Proofs.YtjmmjkoloioddaaDoor
