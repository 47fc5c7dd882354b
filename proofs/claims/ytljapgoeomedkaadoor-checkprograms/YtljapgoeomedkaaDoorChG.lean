
/- Walks of misplaced and mode (package check). No statement of the seat is proved here. -/
import Derived.Test.YtljapgoeomedkaaDoorChF
namespace Go.Proofs.YtljapgoeomedkaaDoor
open Go.RowKit Go.Shelf

/-- The program's two tables: neither, both. -/
structure Gb (w : World) : Prop where
  n0 : w.cell? ⟨0, 0, none⟩ = some (.bool false)
  n1 : w.cell? ⟨0, 1, none⟩ = some (.bool false)
  b0 : w.cell? ⟨1, 0, none⟩ = some (.bool true)
  b1 : w.cell? ⟨1, 1, none⟩ = some (.bool true)
theorem Gb.keeps {w w' : World} (h : Gb w) (k : Keeps (fun _ => False) w w') : Gb w' := by
  have e : ∀ g i, g < w.heap.size → w'.cell? ⟨g, i, none⟩ = w.cell? ⟨g, i, none⟩ := fun g i hg => by
    simp [World.cell?, k.block g hg (fun f => f)]
  have h0 := World.block_lt_of_cell? _ _ h.n0
  have h1 := World.block_lt_of_cell? _ _ h.b0
  exact ⟨(e 0 0 h0).trans h.n0, (e 0 1 h0).trans h.n1, (e 1 0 h1).trans h.b0, (e 1 1 h1).trans h.b1⟩

@[go_sem] theorem eq_sides (a b c d : Bool) (w : World) : (Op.equalIn 10000 76 (.agg #[.bool a, .bool b]) (.agg #[.bool c, .bool d])).run Tryd.prog w = .ok (a == c && b == d) w := by
  have u3 := Tryd.underlying4
  have a3 := Tryd.isAgg4
  have z3 := Tryd.sizeOf4
  rw [show (10000 : Nat) = 9999 + 1 from rfl, Op.equalIn]
  simp only [Sem.run_bind, run_underlying Tryd.underlying76, Result.andThen_ok]
  simp only [Std.Legacy.Range.forIn_eq_forIn_range', Std.Legacy.Range.size, Nat.sub_zero, Nat.add_sub_cancel, Nat.div_one, List.range'_succ, List.range'_zero, List.forIn_cons, List.forIn_nil]
  go_simp
  cases a <;> cases b <;> cases c <;> cases d <;> simp

def firstI (n : Nat) (f : Nat → Bool) : Int := match firstK n f with | some k => k | none => -1
theorem firstI_some {n : Nat} {f : Nat → Bool} {k : Nat} (h1 : k < n) (h2 : f k = true) (h3 : ∀ j, j < k → f j = false) : firstI n f = k := by
  unfold firstI; rw [firstK_some.2 ⟨h1, h2, h3⟩]
theorem firstI_none {n : Nat} {f : Nat → Bool} (h : ∀ k, k < n → f k = false) : firstI n f = -1 := by
  unfold firstI; rw [firstK_none.2 h]
theorem upto_more {f : Nat → Bool} {k : Nat} (h : ∀ j, j < k → f j = false) (hk : f k = false) : ∀ j, j < k + 1 → f j = false := by
  intro j hj
  by_cases e : j = k
  · rw [e]; exact hk
  · exact h j (by omega)

theorem Fnd.two {w : World} {f n : Nat} {R : Nat → Bool → Bool} (h : Fnd w f n R) {a : Nat} (ha : a < n) {x y : Bool} (hx : R a false = x) (hy : R a true = y) : w.cell? ⟨f, a * 2, none⟩ = some (.bool x) ∧ w.cell? ⟨f, a * 2 + 1, none⟩ = some (.bool y) := by
  rw [← hx, ← hy]; exact h.cell ha

set_option maxRecDepth 100000 in
set_option maxHeartbeats 4000000 in
theorem misplaced_any (v : Value) (p : List I5) (f : Nat) (R : Nat → Bool → Bool) (w : World) (h : InsAt w v p) (hl : p.length ≤ 256) (hf : ∀ k, k < p.length → formF p k = false) (hF : Fnd w f p.length R) (hG : Gb w) :
    Calls Tryd.prog 47 #[v, .slice (some ⟨f, 0, none⟩) p.length p.length] w fun e w' => e = .returned (.int .i64 (firstI p.length (modF R p))) ∧ Keeps (fun _ => False) w w' := by
  have HI : Hid (InsAt w v p) := h
  have HF : Hid (Fnd w f p.length R) := hF
  have HG : Hid (Gb w) := hG
  obtain ⟨⟨av, cap, rfl, hc⟩, -, -⟩ := h
  clear hc hF hG
  go_enter Tryd.func47, Tryd.ntmps47
  go_wp2_with fail
  refine (standing_any _).mono ?_
  rintro e w1 ⟨rfl, k1⟩
  have A0 : (w1.alloc (.cells (mayK 0) 111)).heap[w1.heap.size]? = some (.cells (mayK 0) 111 (0, 0)) := heap_alloc_new _ _
  have KA : Keeps (fun _ => False) w (w1.alloc (.cells (mayK 0) 111)) := k1.alloc _
  rw [mayK_zero] at A0 KA
  have lw := k1.size
  go_wp2_with (refine wpList_store_row rfl 111 _ _ rfl w1.heap.size (mayK 18) rfl rfl 111 _ A0 (by rw [size_may, mayK_size]) (by rw [mayK_size]; rfl) (may_one 18) ?_)
  have B0 := setRow_heap _ _ _ (mayK 18) _ _ A0
  have KB := KA.row lw (mayK 18)
  generalize hb : w1.heap.size = b at *
  clear k1 A0 KA
  go_loopw [12] (fun m wr => ∃ k : Nat, m = .int .i64 k ∧ k ≤ p.length ∧ Hid ((∀ j, j < k → modF R p j = false) ∧ Keeps (fun _ => False) w wr ∧ wr.heap[b]? = some (.cells (mayK 18) 111 (0, 0)))) (fun m _ => p.length - (intOf m).toNat)
  case atStart => exact ⟨0, rfl, Nat.zero_le _, ⟨fun j hj => by omega, KB, B0⟩⟩
  case round =>
    clear B0 KB
    obtain ⟨k, rfl, hkl, hh⟩ := hrel
    obtain ⟨hM, hK, hB⟩ := hh.out
    by_cases hlt : k < p.length
    · have hki : (k : Int) < p.length := by omega
      have hfk := hf k hlt
      have hmk : modF R p k = ((R k false && R k true) || (R k false && !outB (at5 p k).op) || (R k true && !insB (at5 p k).op)) := rfl
      have hF := HF.out.keeps hK (fun f => f)
      obtain ⟨n0, n1, b0, b1⟩ := HG.out.keeps hK
      obtain ⟨⟨av', cap', hv, hc⟩, -, -⟩ := HI.out.keeps hK
      cases hv
      obtain ⟨pg, po, rfl, d0, -, -, -, -⟩ := hc k hlt
      have h5 : p[k]'hlt = at5 p k := by simp [at5, hlt]
      rw [h5] at d0
      have hff := formed_facts (i := at5 p k) (by simpa [formF] using hfk)
      have lf := hF.lt
      have lb := lt_of_block hB
      have g0 : 0 < wr.heap.size := World.block_lt_of_cell? _ _ n0
      have g1 : 1 < wr.heap.size := World.block_lt_of_cell? _ _ b0
      have lp : pg < wr.heap.size := World.block_lt_of_cell? _ _ d0
      generalize hop : (at5 p k).op = op at *
      obtain ⟨⟨q0, q1⟩, -⟩ := hff
      obtain ⟨m, rfl⟩ : ∃ m : Nat, op = (m : Int) := ⟨op.toNat, by omega⟩
      have hm : m < 18 := by omega
      have hmi : (m : Int) < 18 := by omega
      obtain ⟨mo, mi⟩ := mayK_at hm
      have e0 : wr.cell? ⟨b, m * 2, none⟩ = some (.bool (outB m)) := by rw [cell_of_block hB]; exact mo
      have e1 : wr.cell? ⟨b, m * 2 + 1, none⟩ = some (.bool (insB m)) := by rw [cell_of_block hB]; exact mi
      have hN : ∀ x : Bool, modF R p k = x → (x = true → Hid (firstI p.length (modF R p) = k)) ∧ (x = false → Hid (∀ j, j < k + 1 → modF R p j = false)) := fun x hx => ⟨fun e => firstI_some hlt (by rw [hx, e]) hM, fun e => upto_more hM (by rw [hx, e])⟩
      clear hfk h5 hc mo mi hh hop hM
      generalize outB (m : Int) = o at *
      generalize insB (m : Int) = i at *
      obtain ⟨x, hx⟩ : ∃ x, R k false = x := ⟨_, rfl⟩
      obtain ⟨y, hy⟩ : ∃ y, R k true = y := ⟨_, rfl⟩
      obtain ⟨c0, c1⟩ := hF.two hlt hx hy
      rw [hx, hy] at hmk
      clear hF hx hy
      have KX : Hid (Keeps (fun _ => False) w wr) := hK
      have BX : Hid (wr.heap[b]? = some (.cells (mayK 18) 111 (0, 0))) := hB
      clear hK hB
      rcases Bool.eq_false_or_eq_true x with rfl | rfl <;> rcases Bool.eq_false_or_eq_true y with rfl | rfl <;> rcases Bool.eq_false_or_eq_true o with rfl | rfl <;> rcases Bool.eq_false_or_eq_true i with rfl | rfl
      · have hn := (hN true hmk).1 rfl
        go_wp2_with fail
        go_ret
        exact ⟨by rw [hn.out]; rfl, (KX.out.alloc _).alloc _⟩
      · have hn := (hN true hmk).1 rfl
        go_wp2_with fail
        go_ret
        exact ⟨by rw [hn.out]; rfl, (KX.out.alloc _).alloc _⟩
      · have hn := (hN true hmk).1 rfl
        go_wp2_with fail
        go_ret
        exact ⟨by rw [hn.out]; rfl, (KX.out.alloc _).alloc _⟩
      · have hn := (hN true hmk).1 rfl
        go_wp2_with fail
        go_ret
        exact ⟨by rw [hn.out]; rfl, (KX.out.alloc _).alloc _⟩
      · have hn := (hN false hmk).2 rfl
        go_wp2_with fail
        go_roundw
        · exact ⟨k + 1, by simp, by omega, ⟨hn.out, by first | exact (KX.out.alloc _).alloc _ | exact KX.out.alloc _, by first | exact (((Keeps.refl (fun _ => False) _).alloc _).alloc _).block _ lb (fun f => f) |>.trans BX.out | exact ((Keeps.refl (fun _ => False) _).alloc _).block _ lb (fun f => f) |>.trans BX.out⟩⟩
        · simp [intOf]; omega
      · have hn := (hN false hmk).2 rfl
        go_wp2_with fail
        go_roundw
        · exact ⟨k + 1, by simp, by omega, ⟨hn.out, by first | exact (KX.out.alloc _).alloc _ | exact KX.out.alloc _, by first | exact (((Keeps.refl (fun _ => False) _).alloc _).alloc _).block _ lb (fun f => f) |>.trans BX.out | exact ((Keeps.refl (fun _ => False) _).alloc _).block _ lb (fun f => f) |>.trans BX.out⟩⟩
        · simp [intOf]; omega
      · have hn := (hN true hmk).1 rfl
        go_wp2_with fail
        go_ret
        exact ⟨by rw [hn.out]; rfl, (KX.out.alloc _).alloc _⟩
      · have hn := (hN true hmk).1 rfl
        go_wp2_with fail
        go_ret
        exact ⟨by rw [hn.out]; rfl, (KX.out.alloc _).alloc _⟩
      · have hn := (hN false hmk).2 rfl
        go_wp2_with fail
        go_roundw
        · exact ⟨k + 1, by simp, by omega, ⟨hn.out, by first | exact (KX.out.alloc _).alloc _ | exact KX.out.alloc _, by first | exact (((Keeps.refl (fun _ => False) _).alloc _).alloc _).block _ lb (fun f => f) |>.trans BX.out | exact ((Keeps.refl (fun _ => False) _).alloc _).block _ lb (fun f => f) |>.trans BX.out⟩⟩
        · simp [intOf]; omega
      · have hn := (hN true hmk).1 rfl
        go_wp2_with fail
        go_ret
        exact ⟨by rw [hn.out]; rfl, (KX.out.alloc _).alloc _⟩
      · have hn := (hN false hmk).2 rfl
        go_wp2_with fail
        go_roundw
        · exact ⟨k + 1, by simp, by omega, ⟨hn.out, by first | exact (KX.out.alloc _).alloc _ | exact KX.out.alloc _, by first | exact (((Keeps.refl (fun _ => False) _).alloc _).alloc _).block _ lb (fun f => f) |>.trans BX.out | exact ((Keeps.refl (fun _ => False) _).alloc _).block _ lb (fun f => f) |>.trans BX.out⟩⟩
        · simp [intOf]; omega
      · have hn := (hN true hmk).1 rfl
        go_wp2_with fail
        go_ret
        exact ⟨by rw [hn.out]; rfl, (KX.out.alloc _).alloc _⟩
      · have hn := (hN false hmk).2 rfl
        go_wp2_with fail
        go_roundw
        · exact ⟨k + 1, by simp, by omega, ⟨hn.out, by first | exact (KX.out.alloc _).alloc _ | exact KX.out.alloc _, by first | exact (((Keeps.refl (fun _ => False) _).alloc _).alloc _).block _ lb (fun f => f) |>.trans BX.out | exact ((Keeps.refl (fun _ => False) _).alloc _).block _ lb (fun f => f) |>.trans BX.out⟩⟩
        · simp [intOf]; omega
      · have hn := (hN false hmk).2 rfl
        go_wp2_with fail
        go_roundw
        · exact ⟨k + 1, by simp, by omega, ⟨hn.out, by first | exact (KX.out.alloc _).alloc _ | exact KX.out.alloc _, by first | exact (((Keeps.refl (fun _ => False) _).alloc _).alloc _).block _ lb (fun f => f) |>.trans BX.out | exact ((Keeps.refl (fun _ => False) _).alloc _).block _ lb (fun f => f) |>.trans BX.out⟩⟩
        · simp [intOf]; omega
      · have hn := (hN false hmk).2 rfl
        go_wp2_with fail
        go_roundw
        · exact ⟨k + 1, by simp, by omega, ⟨hn.out, by first | exact (KX.out.alloc _).alloc _ | exact KX.out.alloc _, by first | exact (((Keeps.refl (fun _ => False) _).alloc _).alloc _).block _ lb (fun f => f) |>.trans BX.out | exact ((Keeps.refl (fun _ => False) _).alloc _).block _ lb (fun f => f) |>.trans BX.out⟩⟩
        · simp [intOf]; omega
      · have hn := (hN false hmk).2 rfl
        go_wp2_with fail
        go_roundw
        · exact ⟨k + 1, by simp, by omega, ⟨hn.out, by first | exact (KX.out.alloc _).alloc _ | exact KX.out.alloc _, by first | exact (((Keeps.refl (fun _ => False) _).alloc _).alloc _).block _ lb (fun f => f) |>.trans BX.out | exact ((Keeps.refl (fun _ => False) _).alloc _).block _ lb (fun f => f) |>.trans BX.out⟩⟩
        · simp [intOf]; omega
    · have hki : ¬ (k : Int) < p.length := by omega
      obtain rfl : k = p.length := by omega
      clear hh
      go_wp2_with fail
      go_ret
      exact ⟨by rw [firstI_none hM]; rfl, hK⟩
end Go.Proofs.YtljapgoeomedkaaDoor
