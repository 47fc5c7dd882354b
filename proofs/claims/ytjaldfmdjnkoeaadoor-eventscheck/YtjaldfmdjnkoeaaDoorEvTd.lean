
/- The law's lent; EventsTexts: the law's walk (package parleylaw13). No statement of the seat is proved here. -/
import Derived.Test.YtjaldfmdjnkoeaaDoorEvT
import Derived.Test.YtjaldfmdjnkoeaaDoorEvTc
namespace Go.Proofs.YtjaldfmdjnkoeaaDoor
open Go.RowKit Go.Shelf

/-- The mark behind what is lent. -/
def mrk : Ev := ⟨-7, 0, 0, 0, false, 0⟩
set_option maxRecDepth 100000 in
set_option maxHeartbeats 4000000 in
theorem lent_any (v : Value) (L : List Ev) (w : World) (hv : EvsAt w v L) :
    Calls Tryd.prog 9 #[v] w fun ex w' => ∃ b cap, ex = .returned (.slice b L.length cap) ∧ L.length + 1 ≤ cap ∧ OwnR Ev.cl 6 44 w' w.heap.size (.slice b (L.length + 1) cap) (L ++ [mrk]) ∧ Keeps (fun _ => False) w w' := by
  have hbig := hv.big
  obtain ⟨v1, X1, r1, o1, gr1⟩ := (OwnR.nil Ev.cl 6 44 w).app ev_len ev_one (by decide) Tryd.underlying22 info_ev rfl (by decide) (ty := 22) _ L hv.els (by simp; omega)
  have k1 := OwnR.kept gr1 (Keeps.refl _ w) (OwnR.nil Ev.cl 6 44 w)
  simp only [List.nil_append] at o1
  have ka := (Keeps.refl (fun _ => False) X1).alloc (.cells mrk.cells 44)
  have ba := (MapKept.heap_alloc X1 (.cells mrk.cells 44)).1
  have o1' := o1.keeps ka (fun _ _ f => f)
  have hM : ElsAt Ev.cl 6 (X1.alloc (.cells mrk.cells 44)) (.slice (some ⟨X1.heap.size, 0, none⟩) 1 1) [mrk] := ⟨some ⟨X1.heap.size, 0, none⟩, 1, rfl, by simp, fun k hk => ⟨X1.heap.size, 0, rfl, fun f x hx => by
    obtain rfl : k = 0 := by simpa using hk
    rw [show 0 + 0 * 6 + f = f by omega, cell_of_block ba]
    have : mrk.cells[f]? = (Ev.cl mrk)[f]? := by simp [Ev.cl]
    rw [this]; exact hx⟩⟩
  obtain ⟨v2, X2, r2, o2, gr2⟩ := o1'.app ev_len ev_one (by decide) Tryd.underlying22 info_ev rfl (by decide) (ty := 22) _ [mrk] hM (by simp; omega)
  have k2 := OwnR.kept gr2 (k1.trans ka) o1'
  obtain ⟨g2, cap2, cur, rfl, hg2, hb2, hcur⟩ := o2.at (by simp)
  have hlc : L.length + 1 ≤ cap2 := by
    obtain ⟨a', c', hv', hl', _⟩ := (o2.els ev_len).form
    simp only [Value.slice.injEq] at hv'
    obtain ⟨-, -, rfl⟩ := hv'
    simpa using hl'
  simp only [List.length_append, List.length_cons, List.length_nil] at r2 o2
  have HR1 : Hid _ := r1
  have HR2 : Hid _ := r2
  have HO : Hid (OwnR Ev.cl 6 44 X2 w.heap.size _ _) := o2
  obtain ⟨a, cap, rfl, hcap⟩ := hv.els.shape
  have hl1 : (L.length : Int) ≤ (cap2 : Int) := by omega
  have hl2 : L.length ≤ cap2 := by omega
  clear o1 o2 o1' gr1 gr2 r1 r2 hM ka ba hv hb2 hcur hg2
  unfold mrk at HR2
  dsimp only [Ev.cells] at HR2
  go_enter Tryd.func9, Tryd.ntmps9
  go_wp2_with (first | (at_builtin; refine wpList_append_run rfl _ _ 22 rfl rfl rfl HR1.out ?_; clear HR1) | (at_builtin; refine wpList_append_run rfl _ _ 22 rfl rfl rfl HR2.out ?_; clear HR2))
  go_ret
  exact ⟨_, _, rfl, hlc, HO.out, k2⟩
set_option maxRecDepth 100000 in
set_option maxHeartbeats 4000000 in
theorem texts_law (v : Value) (L : List Ev) (e : Ev) (hwf : e.wf) (w : World) (hv : EvsAt w v L) (hg : Gv w) (h8 : 8 ≤ w.heap.size) (hlen : L.length ≤ 1048576) :
    Calls Tryd.prog 4 #[v, .agg e.cells] w fun ex w' => ex = .returned (.bool true) ∧ Keeps (fun _ => False) w w' := by
  have NN : ∀ (n : Int) (W : World), Calls Tryd.prog 29 #[.int .i64 n] W fun e w' => e = .returned (.int .i64 n) ∧ W = w' := fun n W => (num_any n W).mono (fun e w' h => ⟨h.1, h.2.symm⟩)
  have HG : Hid (∀ X, Keeps (fun _ => False) w X → Gv X ∧ 8 ≤ X.heap.size) := fun X k => ⟨hg.keeps k, Nat.le_trans h8 k.size⟩
  have HE : Hid (∀ X, Keeps (fun _ => False) w X → EvsAt X v L) := fun X k => hv.keeps k
  have hL1 : Hid (∀ X, Keeps (fun _ => False) w X → Calls Tryd.prog 27 #[.agg e.cells] X fun ex w' => ex = .returned (.tuple #[.string ⟨(lineR e).1.toArray⟩, .int .i64 (lineR e).2]) ∧ Keeps (fun _ => False) X w') := fun X k => line_any e hwf X (HG.out X k).1 (HG.out X k).2
  have hL2 : Hid (∀ X, Keeps (fun _ => False) w X → Calls Tryd.prog 28 #[.agg e.cells] X fun ex w' => ex = .returned (.tuple #[.string ⟨(lineR e).1.toArray⟩, .int .i64 (lineR e).2]) ∧ Keeps (fun _ => False) X w') := fun X k => rline_any e hwf X (HG.out X k).1
  have hT2 : Hid (∀ X, Keeps (fun _ => False) w X → Calls Tryd.prog 26 #[v] X fun ex w' => ex = .returned (.tuple #[.string ⟨(textR L).1.toArray⟩, .int .i64 (textR L).2]) ∧ Keeps (fun _ => False) X w') := fun X k => rtext_any v L X (HE.out X k) (HG.out X k).1 (by omega)
  have hK : Hid (∀ X, Keeps (fun _ => False) w X → Calls Tryd.prog 24 #[] X fun ex w' => ex = .returned (.bool true) ∧ Keeps (fun _ => False) X w') := fun X k => known_any X (HG.out X k).1 (HG.out X k).2
  have hLT : Hid (∀ X, Keeps (fun _ => False) w X → Calls Tryd.prog 9 #[v] X fun ex w' => ∃ b cap, ex = .returned (.slice b L.length cap) ∧ EvsAt w' (.slice b L.length cap) L ∧ Keeps (fun _ => False) X w') := fun X k => (lent_any v L X (HE.out X k)).mono fun ex w' ⟨b, cap, h1, h2, h3, h4⟩ => ⟨b, cap, h1, by
    have h5 := (h3.els ev_len).take L.length (by simp)
    rw [List.take_left'  rfl] at h5
    exact ⟨h5, hv.wf, hv.big⟩, h4⟩
  have hT1 : Hid (∀ X u, Keeps (fun _ => False) w X → EvsAt X u L → Calls Tryd.prog 25 #[u] X fun ex w' => ex = .returned (.tuple #[.string ⟨(textR L).1.toArray⟩, .int .i64 (textR L).2]) ∧ Keeps (fun _ => False) X w') := fun X u k h => text_any u L X h (HG.out X k).1 (HG.out X k).2 (by omega)
  generalize textR L = tr at *
  generalize lineR e = lr at *
  obtain ⟨ts, te⟩ := tr
  obtain ⟨ls, le⟩ := lr
  obtain ⟨th, kd, ad, wd, own, er⟩ := e
  dsimp only at hL1 hL2 hT2 hT1
  obtain ⟨a, cap, rfl, hcap⟩ := hv.els.shape
  clear hv hg h8 hwf
  have k0 := (Keeps.refl (fun _ => False) w).alloc (.cells #[.int .i64 th, .int .i64 kd, .int .u64 ad, .int .u64 wd, .bool own, .int .i64 er] 44)
  have b0 := (MapKept.heap_alloc w (.cells #[.int .i64 th, .int .i64 kd, .int .u64 ad, .int .u64 wd, .bool own, .int .i64 er] 44)).1
  show Calls Tryd.prog 4 #[.slice a L.length cap, .agg #[.int .i64 th, .int .i64 kd, .int .u64 ad, .int .u64 wd, .bool own, .int .i64 er]] w _
  go_enter Tryd.func4, Tryd.ntmps4
  go_wp2_with fail
  refine (hLT.out _ k0).mono ?_
  rintro ex w1 ⟨b, c, rfl, e1, k1⟩
  have K1 := k0.trans k1
  go_wp2_with fail
  refine (hT1.out _ _ K1 e1).mono ?_
  rintro ex w2 ⟨rfl, k2⟩
  have K2 := K1.trans k2
  clear e1 hT1 hLT
  go_wp2_with fail
  refine (hT2.out _ K2).mono ?_
  rintro ex w3 ⟨rfl, k3⟩
  have K3 := K2.trans k3
  obtain ⟨c0, c1, c2, c3, c4, c5⟩ := blk6' (((k1.trans (k2.trans k3)).block _ (lt_of_block b0) (fun f => f)).trans b0)
  go_wp2_with fail
  refine (hL1.out _ K3).mono ?_
  rintro ex w4 ⟨rfl, k4⟩
  have K4 := K3.trans k4
  clear c0 c1 c2 c3 c4 c5
  obtain ⟨c0, c1, c2, c3, c4, c5⟩ := blk6' (((k1.trans (k2.trans (k3.trans k4))).block _ (lt_of_block b0) (fun f => f)).trans b0)
  go_wp2_with fail
  refine (hL2.out _ K4).mono ?_
  rintro ex w5 ⟨rfl, k5⟩
  have K5 := K4.trans k5
  clear c0 c1 c2 c3 c4 c5
  go_wp2_with (go_at_call 29; refine (NN _ _).mono ?_; rintro ex w' ⟨rfl, rfl⟩)
  refine (hK.out _ K5).mono ?_
  rintro ex w6 ⟨rfl, k6⟩
  go_wp2_with fail
  go_ret
  exact ⟨rfl, K5.trans k6⟩
end Go.Proofs.YtjaldfmdjnkoeaaDoor
