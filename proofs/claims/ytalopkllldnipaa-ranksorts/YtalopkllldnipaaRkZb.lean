
/- The walks of the calls New, Len and First (layer 24). No statement of the seat is proved here. -/
import Derived.Test.YtalopkllldnipaaRkZ
namespace Go.Proofs.Ytalopkllldnipaa
open Go.RowKit

set_option maxHeartbeats 2000000 in
theorem new_any {b g c : Nat} {s s1 : Wd} {r q e : Int} (heq : Hid (Wd.rnew r s = ((q, e), s1))) (hr : isW r) {w : World} (h : WdAt w b g c s) :
    Calls Try.prog 31 #[.iface 24 (.pointer (some ⟨b, 0, none⟩)), .int .u64 r] w fun a w' => a = .returned (.tuple #[.int .u64 q, .int .i64 e]) ∧ WdAt w' b g c s1 ∧ Keeps (two b g) w w' := by
  obtain ⟨m, e1, s2, h1, h2, h3⟩ := bnd_step heq.out
  have hwm : isW m := by have p := take_isW h.ok r 2; rw [h1] at p; exact p
  have HL := hid (And.intro h.ltb h.ltg)
  have HC := hid (take_r (n := 2) (hid h1) hr h)
  have H2 := hid (And.intro h2 h3)
  clear h1 h2 h3 h heq
  go_enter Try.func31, Try.ntmps31
  go_wp2_with fail
  refine HC.out.mono ?_
  rintro a w1 ⟨rfl, h1, k1⟩
  have HF := hid (And.intro h1 k1)
  clear HC h1 k1
  by_cases he1 : e1 = 0
  rotate_left
  · go_wp2_with fail
    go_ret2
    obtain ⟨rfl, rfl, rfl⟩ := H2.out.2 he1
    exact ⟨rfl, HF.out.1, HF.out.2⟩
  subst he1
  obtain ⟨y, e2, s3, h4, h5, h6⟩ := bnd_step (H2.out.1 rfl)
  have hb : Blk (w1.alloc (.cells #[.int .u64 0, .int .u64 0] 25)) w1.heap.size 25 (wordsV [0, 0]).toArray := blk_new w1 _ _
  have HC := hid (put_r (l := [0, 0]) (v := .slice (some ⟨w1.heap.size, 0, none⟩) 2 2) (hid h4) hwm (oat2 zero_isW zero_isW) (by simp) (HF.out.1.kept (keeps_new _ _) (fun f => f) (fun f => f)) (hb.lies 2) (slice_ne (by have := HL.out; have := HF.out.2.size; omega) _ _ _))
  have H5 := hid (And.intro h5 h6)
  clear hb h4 h5 h6 H2
  go_wp2_with fail
  refine HC.out.mono ?_
  rintro a w2 ⟨rfl, h1, k1⟩
  have HG := hid (And.intro h1 ((HF.out.2.trans ((keeps_new w1 (.cells #[.int .u64 0, .int .u64 0] 25)).mono (fun _ _ f => f.elim))).trans k1))
  clear HC h1 k1 HF
  by_cases he2 : e2 = 0
  · subst he2
    go_wp2_with fail
    go_ret2
    obtain ⟨rfl, rfl, rfl⟩ := rtn_eq (H5.out.1 (by first | rfl | trivial))
    exact ⟨rfl, HG.out.1, HG.out.2⟩
  · go_wp2_with fail
    go_ret2
    obtain ⟨rfl, rfl, rfl⟩ := H5.out.2 he2
    exact ⟨rfl, HG.out.1, HG.out.2⟩
set_option maxHeartbeats 2000000 in
theorem len_any {b g c : Nat} {s s1 : Wd} {h0 q e : Int} (heq : Hid (Wd.rlen h0 s = ((q, e), s1))) {w : World} (h : WdAt w b g c s) :
    Calls Try.prog 34 #[.iface 24 (.pointer (some ⟨b, 0, none⟩)), .int .u64 h0] w fun a w' => a = .returned (.tuple #[.int .u64 q, .int .i64 e]) ∧ WdAt w' b g c s1 ∧ Keeps (two b g) w w' := by
  have mg := meth_get b
  have ng := nil_get b
  obtain ⟨m, e1, s2, h1, h2, h3⟩ := bnd_step heq.out
  have HC : Hid (Calls Try.prog 119 #[.pointer (some ⟨b, 0, none⟩), .int .u64 (uw (h0 + 0))] w fun r w' => r = .returned (.tuple #[.int .u64 m, .int .i64 e1]) ∧ WdAt w' b g c s2 ∧ Keeps (two b g) w w') := hid (tget_r (hid h1) (uw_isW _) h)
  have H2 := hid (And.intro h2 h3)
  clear h1 h2 h3 h heq
  go_enter Try.func34, Try.ntmps34
  go_wp2_with fail
  simp only [Int.add_zero, uw] at HC
  refine HC.out.mono ?_
  rintro a w1 ⟨rfl, h1, k1⟩
  have HF := hid (And.intro h1 k1)
  clear HC h1 k1
  by_cases he1 : e1 = 0
  rotate_left
  · go_wp2_with fail
    go_ret2
    obtain ⟨rfl, rfl, rfl⟩ := H2.out.2 he1
    exact ⟨rfl, HF.out.1, HF.out.2⟩
  subst he1
  go_wp2_with fail
  go_ret2
  obtain ⟨rfl, rfl, rfl⟩ := rtn_eq (H2.out.1 (by first | rfl | trivial))
  exact ⟨rfl, HF.out.1, HF.out.2⟩

/-- An entry that is told. -/
def rkV (o : Option (Int × Int)) : Value := match o with
  | none => .agg #[.float .f64 0, .int .u64 0]
  | some p => .agg #[.float .f64 (reB p.1), .int .u64 p.2]
theorem results_ctt {fn : Func} {p u v : Tmp} {ty : TypeId} (h : fn.results = #[.cell p ty, .tmp u, .tmp v]) (tmps : Array Value) (P : Program) (w : World) :
    (results fn tmps).run P w = ((asAddr (tmps.getD p undef)).run P w).andThen fun a w₁ => ((loadVar ty a).run P w₁).andThen fun x w₂ => .ok (.tuple #[x, tmps.getD u undef, tmps.getD v undef]) w₂ := by
  simp only [results, h]
  simp [Sem.run_bind, Result.andThen]
theorem ranked_ret3 {fn : Func} {p u v : Tmp} (h : fn.results = #[.cell p 40, .tmp u, .tmp v]) (tmps : Array Value) (w : World) (q : Nat) (x y : Value) (hb : Blk w q 40 #[x, y])
    (hp : tmps.getD p undef = .pointer (some ⟨q, 0, none⟩)) : (results fn tmps).run Try.prog w = .ok (.tuple #[.agg #[x, y], tmps.getD u undef, tmps.getD v undef]) w := by
  rw [results_ctt h, hp]
  simp [asAddr, run_loadVar_row w q 40 40 _ (0, 0) _ hb Try.underlying40 rfl (by rw [size_ranked]; rfl), Result.andThen]

theorem fin2 {w W : World} {b g c : Nat} {s : Wd} {x y : Value} (hl : b < w.heap.size ∧ g < w.heap.size) (h : WdAt W b g c s) (k : Keeps (two b g) w W) : WdAt ((W.setCell ⟨w.heap.size, 0, none⟩ x).setCell ⟨w.heap.size, 1, none⟩ y) b g c s ∧ Keeps (two b g) w ((W.setCell ⟨w.heap.size, 0, none⟩ x).setCell ⟨w.heap.size, 1, none⟩ y) := by
  have k2 := keeps_set2 W w.heap.size x y
  exact ⟨h.kept k2 (by omega) (by omega), k.step k2 (fun i hi q => by omega)⟩
set_option maxHeartbeats 4000000 in
theorem first_any {b g c : Nat} {s s1 : Wd} {h0 e : Int} {o : Option (Int × Int)} (heq : Hid (Wd.rfirst h0 s = ((o, e), s1))) {w : World} (h : WdAt w b g c s) :
    Calls Try.prog 33 #[.iface 24 (.pointer (some ⟨b, 0, none⟩)), .int .u64 h0] w fun a w' => a = .returned (.tuple #[rkV o, .bool o.isSome, .int .i64 e]) ∧ WdAt w' b g c s1 ∧ Keeps (two b g) w w' := by
  have mg := meth_get b
  have ng := nil_get b
  obtain ⟨x, e1, s2, h1, h2, h3⟩ := bnd_step heq.out
  have hwx : isW x := by have q := (h.ok.get (uw (h0 + 1))).2.1; rw [h1] at q; exact q
  have ok2 : s2.Ok := by have q := (h.ok.get (uw (h0 + 1))).1; rw [h1] at q; exact q
  have HL := hid (And.intro h.ltb h.ltg)
  have kn := keeps_new w (.cells #[.float .f64 0, .int .u64 0] 40)
  have HC := hid (tget_r (hid h1) (uw_isW _) (h.kept kn (fun f => f) (fun f => f)))
  have H2 := hid (And.intro h2 h3)
  clear h1 h2 h3 h heq kn
  go_enter Try.func33, Try.ntmps33
  go_wp2_with fail
  refine HC.out.mono ?_
  rintro a w1 ⟨rfl, h1, k1⟩
  have HF : Hid (WdAt w1 b g c s2 ∧ Keeps (two b g) w w1 ∧ Blk w1 w.heap.size 40 #[.float .f64 0, .int .u64 0] ∧ w.heap.size + 1 ≤ w1.heap.size) := by
    have hl := HL.out
    have kn := keeps_new w (.cells #[.float .f64 0, .int .u64 0] 40)
    have hz := k1.size
    refine hid ⟨h1, (kn.mono (fun _ _ f => f.elim)).trans k1, (blk_new w _ _).kept k1 (fun f => by rcases f with f | f <;> omega), by simpa using hz⟩
  have d0 : w1.cell? ⟨w.heap.size, 0, none⟩ = some (.float .f64 0) := HF.out.2.2.1.cell rfl
  have d1 : w1.cell? ⟨w.heap.size, 1, none⟩ = some (.int .u64 0) := HF.out.2.2.1.cell rfl
  have f0 := HF.out.2.2.1.frozen 0
  have f1 := HF.out.2.2.1.frozen 1
  clear HC h1 k1
  by_cases he1 : e1 = 0
  rotate_left
  · go_wp2_with fail
    refine bodyPost_ret (ranked_ret3 rfl _ _ w.heap.size _ _ (HF.out.2.2.1.set2 _ _) rfl) rfl ?_
    obtain ⟨rfl, rfl, rfl⟩ := H2.out.2 he1
    exact ⟨rfl, fin2 HL.out HF.out.1 HF.out.2.1⟩
  subst he1
  replace H2 := hid (H2.out.1 rfl)
  by_cases hx0 : x = 0
  · subst hx0
    have H2 := H2.out
    rw [if_pos rfl] at H2
    obtain ⟨rfl, rfl, rfl⟩ := rtn_eq H2
    clear H2
    go_wp2_with fail
    refine bodyPost_ret (ranked_ret3 rfl _ _ w.heap.size _ _ (HF.out.2.2.1.set2 _ _) rfl) rfl ?_
    exact ⟨rfl, fin2 HL.out HF.out.1 HF.out.2.1⟩
  have H2 := H2.out
  rw [if_neg hx0] at H2
  obtain ⟨l, e2, s3, h4, h5, h6⟩ := bnd_step H2
  have HLL := hid (gets_fact h4 ok2)
  have kn := keeps_new w1 (.cells #[.int .u64 0, .int .u64 0] 26)
  have hb2 : Blk (w1.alloc (.cells #[.int .u64 0, .int .u64 0] 26)) w1.heap.size 26 #[.int .u64 0, .int .u64 0] := blk_new w1 _ _
  have HC : Hid (∀ X : World, X.heap = (w1.alloc (.cells #[.int .u64 0, .int .u64 0] 26)).heap ∧ X.os = w1.os ∧ X.tape = w1.tape ∧ X.output = w1.output → Calls Try.prog 65 #[.iface 24 (.pointer (some ⟨b, 0, none⟩)), .int .u64 (nodeA x), .slice (some ⟨w1.heap.size, 0, none⟩) 2 2] X fun r w' => r = .returned (.int .i64 e2) ∧ Hid (WdAt w' b g c s3 ∧ Keeps (two b g) w w' ∧ Blk w' w.heap.size 40 #[.float .f64 0, .int .u64 0] ∧ (e2 = 0 → Blk w' w1.heap.size 26 (setsV #[.int .u64 0, .int .u64 0] 0 l)))) := by
    refine hid (fun X hX => ?_)
    obtain ⟨a1, a2, a3, a4⟩ := HF.out
    have hl := HL.out
    have kx : Keeps (fun _ => False) w1 X := ((Keeps.refl _ w1).alloc _).like hX.1 hX.2.1 hX.2.2.1 hX.2.2.2
    have hbx : Blk X w1.heap.size 26 #[.int .u64 0, .int .u64 0] := by unfold Blk; rw [hX.1]; exact hb2
    refine (kget_r (hid h4) (uw_isW _) (by decide) (by simp) (a1.kept kx (fun f => f) (fun f => f)) hbx (by omega)).mono ?_
    rintro r w' ⟨rfl, h3, k3, l', h7, h8⟩
    refine ⟨rfl, hid ⟨h3, (a2.trans (kx.mono (fun _ _ f => f.elim))).step k3 (fun i hi f => ?_), (a3.kept kx (fun f => f)).kept k3 (fun f => ?_), fun he => by rw [← h8 he]; exact h7⟩⟩
    · rcases f with f | f
      · omega
      · exact f
    · rcases f with f | f | f <;> omega
  have H5 := hid (And.intro h5 h6)
  have HQ := hid (And.intro HF.out.2.2.2 HL.out)
  clear h4 h5 h6 H2 HF d0 d1 f0 f1 kn hb2
  go_wp2_with fail
  go_region_held3 (fun _ : World => True) (trivial) (first
    | (go_at_call 66; refine (nodeOf_any x _).mono ?_; rintro e_ w_ ⟨rfl, hw_⟩; subst w_)
    | (go_at_call 65; refine (HC.out _ (by exact ⟨rfl, rfl, rfl, rfl⟩)).mono ?_; rintro e_ w2 ⟨rfl, h2⟩))
  all_goals clear HC
  all_goals
    have d0 : w2.cell? ⟨w.heap.size, 0, none⟩ = some (.float .f64 0) := h2.out.2.2.1.cell rfl
    have d1 : w2.cell? ⟨w.heap.size, 1, none⟩ = some (.int .u64 0) := h2.out.2.2.1.cell rfl
    have f0 := h2.out.2.2.1.frozen 0
    have f1 := h2.out.2.2.1.frozen 1
    by_cases he2 : e2 = 0
    rotate_left
    · go_wp2_with fail
      refine bodyPost_ret (ranked_ret3 rfl _ _ w.heap.size _ _ (h2.out.2.2.1.set2 _ _) rfl) rfl ?_
      obtain ⟨rfl, rfl, rfl⟩ := H5.out.2 he2
      exact ⟨rfl, fin2 HQ.out.2 h2.out.1 h2.out.2.1⟩
    subst he2
    obtain ⟨hll, hlw⟩ := HLL.out.2 rfl
    obtain ⟨y0, y1, rfl⟩ : ∃ y0 y1, l = [y0, y1] := by
      match l, hll with
      | [y0, y1], _ => exact ⟨y0, y1, rfl⟩
    have hB : Blk w2 w1.heap.size 26 #[.int .u64 y0, .int .u64 y1] := h2.out.2.2.2 (by first | rfl | trivial)
    have g0 : w2.cell? ⟨w1.heap.size, 0, none⟩ = some (.int .u64 y0) := hB.cell rfl
    have g1 : w2.cell? ⟨w1.heap.size, 1, none⟩ = some (.int .u64 y1) := hB.cell rfl
    have H6 : (if reK y0 = true then rtn (some (y0, y1)) else err none 340) s3 = ((o, e), s1) := H5.out.1 (by first | rfl | trivial)
    have HR := hid (ranked_any y0 y1 (hlw 0) w2)
    clear hB HLL H5 hll hlw
    by_cases hK : reK y0 = true
    · rw [if_pos hK] at H6
      obtain ⟨rfl, rfl, rfl⟩ := rtn_eq H6
      rw [if_pos hK, if_pos hK] at HR
      clear H6
      go_wp2_with fail
      refine HR.out.mono ?_
      rintro r w3 ⟨rfl, k3⟩
      have k4 : Keeps (fun _ => False) w2 (w3.alloc (.cells #[.float .f64 (reB y0), .int .u64 y1] 40)) := k3.alloc _
      have hb4 := h2.out.2.2.1.kept k4 (fun f => f)
      have d0 : (w3.alloc (.cells #[.float .f64 (reB y0), .int .u64 y1] 40)).cell? ⟨w.heap.size, 0, none⟩ = some (.float .f64 0) := hb4.cell rfl
      have d1 : (w3.alloc (.cells #[.float .f64 (reB y0), .int .u64 y1] 40)).cell? ⟨w.heap.size, 1, none⟩ = some (.int .u64 0) := hb4.cell rfl
      have f0 := hb4.frozen 0
      have f1 := hb4.frozen 1
      have HX := hid (And.intro hb4 k4)
      clear hb4 k3 k4 HR
      go_wp2_with fail
      refine bodyPost_ret (ranked_ret3 rfl _ _ w.heap.size _ _ (HX.out.1.set2 _ _) rfl) rfl ?_
      exact ⟨rfl, fin2 HQ.out.2 (h2.out.1.kept HX.out.2 (fun f => f) (fun f => f)) (h2.out.2.1.trans (HX.out.2.mono (fun _ _ f => f.elim)))⟩
    · rw [if_neg hK] at H6
      unfold err at H6
      simp only [Prod.mk.injEq] at H6
      obtain ⟨⟨rfl, rfl⟩, rfl⟩ := H6
      rw [if_neg hK, if_neg hK] at HR
      go_wp2_with fail
      refine HR.out.mono ?_
      rintro r w3 ⟨rfl, k3⟩
      have k4 : Keeps (fun _ => False) w2 (w3.alloc (.cells #[.float .f64 0, .int .u64 0] 40)) := k3.alloc _
      have hb4 := h2.out.2.2.1.kept k4 (fun f => f)
      have d0 : (w3.alloc (.cells #[.float .f64 0, .int .u64 0] 40)).cell? ⟨w.heap.size, 0, none⟩ = some (.float .f64 0) := hb4.cell rfl
      have d1 : (w3.alloc (.cells #[.float .f64 0, .int .u64 0] 40)).cell? ⟨w.heap.size, 1, none⟩ = some (.int .u64 0) := hb4.cell rfl
      have f0 := hb4.frozen 0
      have f1 := hb4.frozen 1
      have HX := hid (And.intro hb4 k4)
      clear hb4 k3 k4 HR
      go_wp2_with fail
      refine bodyPost_ret (ranked_ret3 rfl _ _ w.heap.size _ _ (HX.out.1.set2 _ _) rfl) rfl ?_
      exact ⟨rfl, fin2 HQ.out.2 (h2.out.1.kept HX.out.2 (fun f => f) (fun f => f)) (h2.out.2.1.trans (HX.out.2.mono (fun _ _ f => f.elim)))⟩
end Go.Proofs.Ytalopkllldnipaa
