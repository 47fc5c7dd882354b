/-
  No statement of the seat is proved here. (Several texts in one: QxG, QxH, QxI.)
-/
import Derived.Test.YtadbplbifjeghaaQxF
import Derived.Test.YtadbplbifjeghaaQuEa
import Derived.Test.YtadbplbifjeghaaQuEb

/- The document's queues as they lie; its New and Put (layer 23). No statement of the seat is proved here. -/
namespace Go.Proofs.Ytadbplbifjeghaa
open Go.RowKit

/-- A queue of the document's, as it lies: its box, its two rows. -/
structure Qe where
  p : Nat
  vn : Value
  vw : Value
  a : Int
  ns : List Int
  ws : List Int
def Qe.fp (e : Qe) : List Nat := e.p :: ((vb e.vn).toList ++ (vb e.vw).toList)
structure EAt (w : World) (e : Qe) : Prop where
  bx : w.heap[e.p]? = some (.cells #[.int .u64 e.a, e.vn, e.vw] 42 (0, 0))
  rn : Rw w e.vn e.ns
  rw : Rw w e.vw e.ws
section
variable {w w' : World} {e : Qe}
theorem EAt.keeps {S : Nat → Prop} (h : EAt w e) (k : Keeps S w w') (hs : ∀ i ∈ e.fp, ¬ S i) : EAt w' e :=
  ⟨(k.block _ (lt_of_block h.bx) (hs _ List.mem_cons_self)).trans h.bx, h.rn.keeps k (fun g hg => hs g (List.mem_cons_of_mem _ (List.mem_append_left _ (by rw [hg]; simp)))), h.rw.keeps k (fun g hg => hs g (List.mem_cons_of_mem _ (List.mem_append_right _ (by rw [hg]; simp))))⟩
theorem EAt.lt (h : EAt w e) : ∀ i ∈ e.fp, i < w.heap.size := fun i hi => by
  rcases List.mem_cons.1 hi with rfl | hi
  · exact lt_of_block h.bx
  · rcases List.mem_append.1 hi with hi | hi
    · exact h.rn.lt (by simpa using hi)
    · exact h.rw.lt (by simpa using hi)
theorem EAt.c0 (h : EAt w e) : w.cell? ⟨e.p, 0, none⟩ = some (.int .u64 e.a) := by rw [cell_of_block h.bx]; rfl
theorem EAt.c1 (h : EAt w e) : w.cell? ⟨e.p, 1, none⟩ = some e.vn := by rw [cell_of_block h.bx]; rfl
theorem EAt.c2 (h : EAt w e) : w.cell? ⟨e.p, 2, none⟩ = some e.vw := by rw [cell_of_block h.bx]; rfl
theorem EAt.fz (h : EAt w e) (i : Nat) : w.frozen? ⟨e.p, i, none⟩ = false := frozen_of_block h.bx i
end

/-- New. -/
theorem rqnew_any {b g c : Nat} {r r1 : Wd} {a e1 : Int} (heq : Hid (r.take 0 3 = ((a, e1), r1))) (w : World) (h : WdAt w b g c r) :
    Calls Try.prog 20 #[.pointer (some ⟨b, 0, none⟩)] w fun e w' => ∃ v, e = .returned (.tuple #[v, .int .i64 e1]) ∧ WdAt w' b g c r1 ∧ Keeps (two b g) w w' ∧ (e1 = 0 → ∃ p, v = .pointer (some ⟨p, 0, none⟩) ∧ w.heap.size ≤ p ∧ EAt w' ⟨p, .slice none 0 0, .slice none 0 0, a, [], []⟩) ∧ (e1 ≠ 0 → v = .pointer none) := by
  have HH := hid h
  clear h
  by_cases he : e1 = 0
  · subst he
    go_enter Try.func20, Try.ntmps20
    go_wp2_with fail
    have hh := HH.out
    refine (rtake_r heq zero_isW hh).mono ?_
    rintro e_ w1 ⟨rfl, h1, k1⟩
    have HF := hid (And.intro h1 k1)
    clear hh h1 k1 HH heq
    go_wp2_with fail
    go_ret2
    refine ⟨_, rfl, HF.out.1.kept ((Keeps.refl (fun _ => False) w1).alloc _) (fun f => f) (fun f => f), HF.out.2.alloc _, fun _ => ⟨_, rfl, HF.out.2.size, ⟨alloc_block w1 _, Rw.nil _, Rw.nil _⟩⟩, fun q => absurd rfl q⟩
  · go_enter Try.func20, Try.ntmps20
    go_wp2_with fail
    have hh := HH.out
    refine (rtake_r heq zero_isW hh).mono ?_
    rintro e_ w1 ⟨rfl, h1, k1⟩
    have HF := hid (And.intro h1 k1)
    clear hh h1 k1 HH heq
    go_wp2_with fail
    go_ret2
    exact ⟨_, rfl, HF.out.1, HF.out.2, fun q => absurd q he, fun _ => rfl⟩

/-- What Put leaves. -/
def PutPost (e : Qe) (a x : Int) (b g c : Nat) (r1 : Wd) (w w' : World) : Prop :=
  ∃ vn' vw', EAt w' ⟨e.p, vn', vw', e.a, e.ns ++ [a], e.ws ++ [x]⟩ ∧ WdAt w' b g c r1 ∧ Keeps (fun i => two b g i ∨ i ∈ e.fp) w w' ∧ (∀ i, vb vn' = some i → vb e.vn = some i ∨ w.heap.size ≤ i) ∧ (∀ i, vb vw' = some i → vb e.vw = some i ∨ w.heap.size ≤ i) ∧ (∀ i j, vb vn' = some i → vb vw' = some j → i ≠ j)
set_option maxRecDepth 100000 in
set_option maxHeartbeats 4000000 in
theorem rqput_any {b g c : Nat} {r r1 : Wd} {a e1 : Int} (heq : Hid (r.take 0 2 = ((a, e1), r1))) (e : Qe) (x : Int) (w : World) (h : WdAt w b g c r) (he : EAt w e) (hd : ∀ i ∈ e.fp, ¬ two b g i) (hn : e.fp.Nodup) (hl : e.ns.length < 100000 ∧ e.ws.length < 100000) :
    Calls Try.prog 22 #[.pointer (some ⟨e.p, 0, none⟩), .pointer (some ⟨b, 0, none⟩), .int .u64 x] w fun er w' => er = .returned (.int .i64 e1) ∧ (e1 = 0 → PutPost e a x b g c r1 w w') ∧ (e1 ≠ 0 → WdAt w' b g c r1 ∧ EAt w' e ∧ Keeps (two b g) w w') := by
  have HH := hid (And.intro h he)
  have HD := hid (And.intro hd (And.intro hn hl))
  clear h he hd hn hl
  obtain ⟨p, vn, vw, qa, ns, ws⟩ := e
  by_cases he1 : e1 = 0
  · subst he1
    go_enter Try.func22, Try.ntmps22
    go_wp2_with fail
    have hh := HH.out.1
    refine (rtake_r heq zero_isW hh).mono ?_
    rintro e_ w1 ⟨rfl, h1, k1⟩
    have hE1 := HH.out.2.keeps k1 HD.out.1
    have c1 := hE1.c1
    try dsimp only at c1
    obtain ⟨vn', wa, hrun, hrn, hka, hva⟩ := hE1.rn.push HD.out.2.2.1 a
    try dsimp only at hrun hrn hka hva
    have hpn : p ∉ (vb vn).toList ++ (vb vw).toList := (List.nodup_cons.1 HD.out.2.1).1
    have hpvn : vb vn ≠ some p := fun e => hpn (List.mem_append_left _ (by rw [e]; simp))
    have hpvw : vb vw ≠ some p := fun e => hpn (List.mem_append_right _ (by rw [e]; simp))
    have hnw : ∀ i, vb vn = some i → vb vw ≠ some i := fun i e1 e2 => by
      have q := (List.nodup_cons.1 HD.out.2.1).2
      dsimp only at q
      rw [e1, e2] at q
      simp at q
    have bxa : wa.heap[p]? = some (.cells #[.int .u64 qa, vn, vw] 42 (0, 0)) := (hka.block p (lt_of_block hE1.bx) hpvn).trans hE1.bx
    have fa1 : wa.frozen? ⟨p, 1, none⟩ = false := frozen_of_block bxa _
    have fa2 : wa.frozen? ⟨p, 2, none⟩ = false := frozen_of_block bxa _
    have ca1 : wa.cell? ⟨p, 1, none⟩ = some vn := by rw [cell_of_block bxa]; rfl
    have ca2 : wa.cell? ⟨p, 2, none⟩ = some vw := by rw [cell_of_block bxa]; rfl
    have hrw0 : Rw wa vw ws := hE1.rw.keeps hka (fun i h1 h2 => hnw i h2 h1)
    have ks : Keeps (fun i => i = p) wa (wa.setCell ⟨p, 1, none⟩ vn') := (Keeps.refl (fun i => i = p) wa).setCell (p := ⟨p, 1, none⟩) (.inr rfl) _
    have hpvn' : vb vn' ≠ some p := fun e => by
      rcases hva p e with q | q
      · exact hpvn q
      · have := lt_of_block hE1.bx; dsimp only at this; omega
    have hrw1 : Rw (wa.setCell ⟨p, 1, none⟩ vn') vw ws := hrw0.keeps ks (fun i h1 h2 => by subst h2; exact hpvw h1)
    obtain ⟨vw', wb, hrun2, hrw2, hkb, hvb⟩ := hrw1.push HD.out.2.2.2 x
    try dsimp only at hrun2 hrw2 hkb hvb
    have hszs : (wa.setCell ⟨p, 1, none⟩ vn').heap.size = wa.heap.size := by simp
    rw [hszs] at hrun2
    have HR : Hid (_ = _) := hrun
    have HR2 : Hid (_ = _) := hrun2
    have bxs : (wa.setCell ⟨p, 1, none⟩ vn').heap[p]? = some (.cells #[.int .u64 qa, vn', vw] 42 (0, 0)) := block_set bxa 1 _
    have bxb : wb.heap[p]? = some (.cells #[.int .u64 qa, vn', vw] 42 (0, 0)) := (hkb.block p (lt_of_block bxs) hpvw).trans bxs
    have cb2 : wb.cell? ⟨p, 2, none⟩ = some vw := by rw [cell_of_block bxb]; rfl
    have fb2 : wb.frozen? ⟨p, 2, none⟩ = false := frozen_of_block bxb _
    have kf : Keeps (fun i => i = p) wb (wb.setCell ⟨p, 2, none⟩ vw') := (Keeps.refl (fun i => i = p) wb).setCell (p := ⟨p, 2, none⟩) (.inr rfl) _
    have bxf : (wb.setCell ⟨p, 2, none⟩ vw').heap[p]? = some (.cells #[.int .u64 qa, vn', vw'] 42 (0, 0)) := block_set bxb 2 _
    have szb : wa.heap.size ≤ wb.heap.size := by rw [← hszs]; exact hkb.size
    have hlt1 := HH.out.2.lt
    have HFIN : Hid (PutPost ⟨p, vn, vw, qa, ns, ws⟩ a x b g c r1 w (wb.setCell ⟨p, 2, none⟩ vw')) := by
      have hvn'lt : ∀ i, vb vn' = some i → i < wa.heap.size := fun i e => hrn.lt e
      have hvw'p : vb vw' ≠ some p := fun e => by
        rcases hvb p e with q | q
        · exact hpvw q
        · have := lt_of_block bxs; rw [hszs] at q; simp at this; omega
      have hvnw : ∀ i j, vb vn' = some i → vb vw' = some j → i ≠ j := fun i j e1 e2 hij => by
        subst hij
        rcases hvb i e2 with q | q
        · rcases hva i e1 with q2 | q2
          · exact hnw i q2 q
          · have := hE1.rw.lt q; omega
        · rw [hszs] at q
          have := hvn'lt i e1
          omega
      have hvnkb : ∀ i, vb vn' = some i → ¬ vb vw = some i := fun i e1 q => by
        rcases hva i e1 with q2 | q2
        · exact hnw i q2 q
        · have := hE1.rw.lt q
          try dsimp only at this
          omega
      have kall : Keeps (fun i => two b g i ∨ i ∈ Qe.fp ⟨p, vn, vw, qa, ns, ws⟩) w (wb.setCell ⟨p, 2, none⟩ vw') := by
        have q1 := (k1.mono (T := fun i => two b g i ∨ i ∈ Qe.fp ⟨p, vn, vw, qa, ns, ws⟩) (fun _ _ e => .inl e))
        have q2 := hka.mono (T := fun i => two b g i ∨ i ∈ Qe.fp ⟨p, vn, vw, qa, ns, ws⟩) (fun i _ e => .inr (List.mem_cons_of_mem _ (List.mem_append_left _ (by rw [e]; simp))))
        have q3 := ks.mono (T := fun i => two b g i ∨ i ∈ Qe.fp ⟨p, vn, vw, qa, ns, ws⟩) (fun i _ e => .inr (by subst e; exact List.mem_cons_self))
        have q4 := hkb.mono (T := fun i => two b g i ∨ i ∈ Qe.fp ⟨p, vn, vw, qa, ns, ws⟩) (fun i _ e => .inr (List.mem_cons_of_mem _ (List.mem_append_right _ (by rw [e]; simp))))
        have q5 := kf.mono (T := fun i => two b g i ∨ i ∈ Qe.fp ⟨p, vn, vw, qa, ns, ws⟩) (fun i _ e => .inr (by subst e; exact List.mem_cons_self))
        exact (((q1.trans q2).trans q3).trans q4).trans q5
      have hrn' : Rw (wb.setCell ⟨p, 2, none⟩ vw') vn' (ns ++ [a]) := ((hrn.keeps ks (fun i h1 h2 => by subst h2; exact hpvn' h1)).keeps hkb (fun i h1 h2 => hvnkb i h1 h2)).keeps kf (fun i h1 h2 => by subst h2; exact hpvn' h1)
      have hdb : ∀ i ∈ Qe.fp ⟨p, vn, vw, qa, ns, ws⟩, ¬ two b g i := HD.out.1
      have hw : WdAt (wb.setCell ⟨p, 2, none⟩ vw') b g c r1 := by
        have nb : ∀ i, two b g i → i ∉ Qe.fp ⟨p, vn, vw, qa, ns, ws⟩ := fun i h1 h2 => hdb i h2 h1
        have mn : ∀ i, vb vn = some i → i ∈ Qe.fp ⟨p, vn, vw, qa, ns, ws⟩ := fun i e => List.mem_cons_of_mem _ (List.mem_append_left _ (by rw [e]; simp))
        have mw : ∀ i, vb vw = some i → i ∈ Qe.fp ⟨p, vn, vw, qa, ns, ws⟩ := fun i e => List.mem_cons_of_mem _ (List.mem_append_right _ (by rw [e]; simp))
        have mp : p ∈ Qe.fp ⟨p, vn, vw, qa, ns, ws⟩ := List.mem_cons_self
        have z1 := h1.kept hka (fun e => nb b (.inl rfl) (mn b e)) (fun e => nb g (.inr rfl) (mn g e))
        have z2 := z1.kept ks (fun e => nb b (.inl rfl) (by rw [e]; exact mp)) (fun e => nb g (.inr rfl) (by rw [e]; exact mp))
        have z3 := z2.kept hkb (fun e => nb b (.inl rfl) (mw b e)) (fun e => nb g (.inr rfl) (mw g e))
        exact z3.kept kf (fun e => nb b (.inl rfl) (by rw [e]; exact mp)) (fun e => nb g (.inr rfl) (by rw [e]; exact mp))
      refine hid ⟨vn', vw', ⟨bxf, hrn', hrw2.keeps kf (fun i h1 h2 => by subst h2; exact hvw'p h1)⟩, hw, kall, fun i e => ?_, fun i e => ?_, hvnw⟩
      · rcases hva i e with q | q
        · exact .inl q
        · exact .inr (by have := k1.size; omega)
      · rcases hvb i e with q | q
        · exact .inl q
        · rw [hszs] at q
          exact .inr (by have := k1.size; have := hka.size; omega)
    obtain ⟨an, cn, en⟩ := hrn.form
    obtain ⟨aw, cw, ew⟩ := hrw2.form
    rw [List.length_append, List.length_singleton] at en ew
    subst en
    subst ew
    obtain ⟨an0, cn0, rfl⟩ : ∃ a c, vn = .slice a ns.length c := hE1.rn.form
    obtain ⟨aw0, cw0, rfl⟩ : ∃ a c, vw = .slice a ws.length c := hE1.rw.form
    clear hh h1 k1 HH heq hrun hrun2 hE1 hrn hka hva hpn hpvn hpvw hnw bxa hrw0 ks hpvn' hrw1 hrw2 hkb hvb hszs bxs bxb kf bxf szb hlt1
    go_wp2_with (at_builtin; first | (refine wpList_append_run rfl _ _ 36 rfl rfl rfl HR.out ?_; clear HR) | (refine wpList_append_run rfl _ _ 36 rfl rfl rfl HR2.out ?_; clear HR2))
    go_ret
    exact ⟨rfl, fun _ => HFIN.out, fun q => absurd rfl q⟩
  · go_enter Try.func22, Try.ntmps22
    go_wp2_with fail
    have hh := HH.out.1
    refine (rtake_r heq zero_isW hh).mono ?_
    rintro e_ w1 ⟨rfl, h1, k1⟩
    have HF := hid (And.intro h1 (And.intro (HH.out.2.keeps k1 HD.out.1) k1))
    clear hh h1 k1 HH heq
    go_wp2_with fail
    go_ret
    exact ⟨rfl, fun q => absurd q he1, fun _ => HF.out⟩
end Go.Proofs.Ytadbplbifjeghaa


/- The document's Take and Drop (layer 23). No statement of the seat is proved here. -/
namespace Go.Proofs.Ytadbplbifjeghaa
open Go.RowKit

set_option maxRecDepth 100000 in
set_option maxHeartbeats 4000000 in
theorem rqtake_none {b : Nat} (e : Qe) (w : World) (he : EAt w e) (h0 : e.ns = []) :
    Calls Try.prog 24 #[.pointer (some ⟨e.p, 0, none⟩), .pointer (some ⟨b, 0, none⟩)] w fun er w' => er = .returned (.tuple #[.int .u64 0, .bool false]) ∧ w' = w := by
  obtain ⟨p, vn, vw, qa, ns, ws⟩ := e
  dsimp only at h0 ⊢
  subst h0
  have c1 := he.c1
  dsimp only at c1
  obtain ⟨an, cn, hv⟩ := he.rn.form
  dsimp only at hv
  simp only [List.length_nil] at hv
  subst hv
  clear he
  go_enter Try.func24, Try.ntmps24
  go_wp2_with fail
  go_ret2
  exact ⟨rfl, rfl⟩
/-- What Take leaves. -/
def TakePost (e : Qe) (ns ws : List Int) (b g c : Nat) (r1 : Wd) (w w' : World) : Prop :=
  ∃ vn' vw', EAt w' ⟨e.p, vn', vw', e.a, ns, ws⟩ ∧ WdAt w' b g c r1 ∧ Keeps (fun i => two b g i ∨ i = e.p) w w' ∧ vb vn' = vb e.vn ∧ vb vw' = vb e.vw
theorem take_fin {b g c : Nat} {r1 : Wd} {e : Qe} {ns ws : List Int} {w w1 : World} {vn' vw' : Value} (h1 : WdAt w1 b g c r1) (he : EAt w1 e) (k1 : Keeps (two b g) w w1) (hd : ∀ i ∈ e.fp, ¬ two b g i) (hnd : e.fp.Nodup) (hn : Rw w1 vn' ns) (hw : Rw w1 vw' ws) (en : vb vn' = vb e.vn) (ew : vb vw' = vb e.vw) :
    TakePost e ns ws b g c r1 w ((w1.setCell ⟨e.p, 1, none⟩ vn').setCell ⟨e.p, 2, none⟩ vw') := by
  have hpn : e.p ∉ (vb e.vn).toList ++ (vb e.vw).toList := (List.nodup_cons.1 hnd).1
  have hpvn : vb vn' ≠ some e.p := fun q => hpn (List.mem_append_left _ (by rw [← en, q]; simp))
  have hpvw : vb vw' ≠ some e.p := fun q => hpn (List.mem_append_right _ (by rw [← ew, q]; simp))
  have ks : Keeps (fun i => i = e.p) w1 (w1.setCell ⟨e.p, 1, none⟩ vn') := (Keeps.refl (fun i => i = e.p) w1).setCell (p := ⟨e.p, 1, none⟩) (.inr rfl) _
  have kt : Keeps (fun i => i = e.p) w1 ((w1.setCell ⟨e.p, 1, none⟩ vn').setCell ⟨e.p, 2, none⟩ vw') := ks.setCell (p := ⟨e.p, 2, none⟩) (.inr rfl) _
  have hpb : ¬ two b g e.p := hd _ List.mem_cons_self
  refine ⟨vn', vw', ⟨block_set (block_set he.bx 1 _) 2 _, hn.keeps kt (fun i q1 q2 => by subst q2; exact hpvn q1), hw.keeps kt (fun i q1 q2 => by subst q2; exact hpvw q1)⟩, h1.kept kt (fun q => hpb (.inl q.symm)) (fun q => hpb (.inr q.symm)), (k1.mono fun _ _ q => .inl q).trans (kt.mono fun _ _ q => .inr q), en, ew⟩
set_option maxRecDepth 100000 in
set_option maxHeartbeats 4000000 in
theorem rqtake_one {b g c : Nat} {r r1 : Wd} {n x e1 : Int} {ns ws : List Int} (heq : Hid (r.give 0 n 2 = (e1, r1))) (hn : isW n) (e : Qe) (hns : e.ns = n :: ns) (hws : e.ws = x :: ws) (w : World) (h : WdAt w b g c r) (he : EAt w e) (hd : ∀ i ∈ e.fp, ¬ two b g i) (hnd : e.fp.Nodup) :
    Calls Try.prog 24 #[.pointer (some ⟨e.p, 0, none⟩), .pointer (some ⟨b, 0, none⟩)] w fun er w' => er = .returned (.tuple #[.int .u64 x, .bool true]) ∧ TakePost e ns ws b g c r1 w w' := by
  obtain ⟨p, vn, vw, qa, nsx, wsx⟩ := e
  dsimp only at hns hws ⊢
  subst hns
  subst hws
  have hpn : p ∉ (vb vn).toList ++ (vb vw).toList := (List.nodup_cons.1 hnd).1
  have hpvn : vb vn ≠ some p := fun e => hpn (List.mem_append_left _ (by rw [e]; simp))
  have hpvw : vb vw ≠ some p := fun e => hpn (List.mem_append_right _ (by rw [e]; simp))
  obtain ⟨gn, on, kn, rfl, hkn, cn0, rn'⟩ := he.rn.cut
  obtain ⟨gw, ow, kw, rfl, hkw, cw0, rw'⟩ := he.rw.cut
  have c1 := he.c1
  have c2 := he.c2
  dsimp only at c1 c2
  have HH := hid (And.intro h he)
  have HD := hid (And.intro hd hnd)
  have HRW := hid (And.intro rn' rw')
  clear h he hd hnd rn' rw' hpn hpvn hpvw
  by_cases hk1 : kn = 1
  · by_cases hk2 : kw = 1
    · skip
      rw [if_pos hk1, if_pos hk2, show kn - 1 = 0 by omega, show kw - 1 = 0 by omega] at HRW
      go_enter Try.func24, Try.ntmps24
      go_wp2_with fail
      have hh := HH.out.1
      refine (rgive_r heq hn hh).mono ?_
      rintro e_ w1 ⟨rfl, h1, k1⟩
      have hE1 := HH.out.2.keeps k1 HD.out.1
      have d1 := hE1.c1
      have d2 := hE1.c2
      have f1 := hE1.fz 1
      have f2 := hE1.fz 2
      dsimp only at d1 d2 f1 f2
      have mn : ∀ i, vb (Value.slice (some ⟨gn, on, none⟩) (ns.length + 1) kn) = some i → i ∈ Qe.fp ⟨p, .slice (some ⟨gn, on, none⟩) (ns.length + 1) kn, .slice (some ⟨gw, ow, none⟩) (ws.length + 1) kw, qa, n :: ns, x :: ws⟩ := fun i e => List.mem_cons_of_mem _ (List.mem_append_left _ (by rw [e]; simp))
      have mw : ∀ i, vb (Value.slice (some ⟨gw, ow, none⟩) (ws.length + 1) kw) = some i → i ∈ Qe.fp ⟨p, .slice (some ⟨gn, on, none⟩) (ns.length + 1) kn, .slice (some ⟨gw, ow, none⟩) (ws.length + 1) kw, qa, n :: ns, x :: ws⟩ := fun i e => List.mem_cons_of_mem _ (List.mem_append_right _ (by rw [e]; simp))
      have HFIN := hid (take_fin h1 hE1 k1 HD.out.1 HD.out.2 (HRW.out.1.keeps k1 (fun i q1 q2 => HD.out.1 i (mn i q1) q2)) (HRW.out.2.keeps k1 (fun i q1 q2 => HD.out.1 i (mw i q1) q2)) rfl rfl)
      clear hh h1 k1 HH heq hE1 HRW HD mn mw
      go_wp2_with fail
      go_ret2
      exact ⟨rfl, HFIN.out⟩
    · skip
      rw [if_pos hk1, if_neg hk2, show kn - 1 = 0 by omega] at HRW
      go_enter Try.func24, Try.ntmps24
      go_wp2_with fail
      have hh := HH.out.1
      refine (rgive_r heq hn hh).mono ?_
      rintro e_ w1 ⟨rfl, h1, k1⟩
      have hE1 := HH.out.2.keeps k1 HD.out.1
      have d1 := hE1.c1
      have d2 := hE1.c2
      have f1 := hE1.fz 1
      have f2 := hE1.fz 2
      dsimp only at d1 d2 f1 f2
      have mn : ∀ i, vb (Value.slice (some ⟨gn, on, none⟩) (ns.length + 1) kn) = some i → i ∈ Qe.fp ⟨p, .slice (some ⟨gn, on, none⟩) (ns.length + 1) kn, .slice (some ⟨gw, ow, none⟩) (ws.length + 1) kw, qa, n :: ns, x :: ws⟩ := fun i e => List.mem_cons_of_mem _ (List.mem_append_left _ (by rw [e]; simp))
      have mw : ∀ i, vb (Value.slice (some ⟨gw, ow, none⟩) (ws.length + 1) kw) = some i → i ∈ Qe.fp ⟨p, .slice (some ⟨gn, on, none⟩) (ns.length + 1) kn, .slice (some ⟨gw, ow, none⟩) (ws.length + 1) kw, qa, n :: ns, x :: ws⟩ := fun i e => List.mem_cons_of_mem _ (List.mem_append_right _ (by rw [e]; simp))
      have HFIN := hid (take_fin h1 hE1 k1 HD.out.1 HD.out.2 (HRW.out.1.keeps k1 (fun i q1 q2 => HD.out.1 i (mn i q1) q2)) (HRW.out.2.keeps k1 (fun i q1 q2 => HD.out.1 i (mw i q1) q2)) rfl rfl)
      clear hh h1 k1 HH heq hE1 HRW HD mn mw
      go_wp2_with fail
      go_ret2
      exact ⟨rfl, HFIN.out⟩
  · by_cases hk2 : kw = 1
    · skip
      rw [if_neg hk1, if_pos hk2, show kw - 1 = 0 by omega] at HRW
      go_enter Try.func24, Try.ntmps24
      go_wp2_with fail
      have hh := HH.out.1
      refine (rgive_r heq hn hh).mono ?_
      rintro e_ w1 ⟨rfl, h1, k1⟩
      have hE1 := HH.out.2.keeps k1 HD.out.1
      have d1 := hE1.c1
      have d2 := hE1.c2
      have f1 := hE1.fz 1
      have f2 := hE1.fz 2
      dsimp only at d1 d2 f1 f2
      have mn : ∀ i, vb (Value.slice (some ⟨gn, on, none⟩) (ns.length + 1) kn) = some i → i ∈ Qe.fp ⟨p, .slice (some ⟨gn, on, none⟩) (ns.length + 1) kn, .slice (some ⟨gw, ow, none⟩) (ws.length + 1) kw, qa, n :: ns, x :: ws⟩ := fun i e => List.mem_cons_of_mem _ (List.mem_append_left _ (by rw [e]; simp))
      have mw : ∀ i, vb (Value.slice (some ⟨gw, ow, none⟩) (ws.length + 1) kw) = some i → i ∈ Qe.fp ⟨p, .slice (some ⟨gn, on, none⟩) (ns.length + 1) kn, .slice (some ⟨gw, ow, none⟩) (ws.length + 1) kw, qa, n :: ns, x :: ws⟩ := fun i e => List.mem_cons_of_mem _ (List.mem_append_right _ (by rw [e]; simp))
      have HFIN := hid (take_fin h1 hE1 k1 HD.out.1 HD.out.2 (HRW.out.1.keeps k1 (fun i q1 q2 => HD.out.1 i (mn i q1) q2)) (HRW.out.2.keeps k1 (fun i q1 q2 => HD.out.1 i (mw i q1) q2)) rfl rfl)
      clear hh h1 k1 HH heq hE1 HRW HD mn mw
      go_wp2_with fail
      go_ret2
      exact ⟨rfl, HFIN.out⟩
    · skip
      rw [if_neg hk1, if_neg hk2] at HRW
      go_enter Try.func24, Try.ntmps24
      go_wp2_with fail
      have hh := HH.out.1
      refine (rgive_r heq hn hh).mono ?_
      rintro e_ w1 ⟨rfl, h1, k1⟩
      have hE1 := HH.out.2.keeps k1 HD.out.1
      have d1 := hE1.c1
      have d2 := hE1.c2
      have f1 := hE1.fz 1
      have f2 := hE1.fz 2
      dsimp only at d1 d2 f1 f2
      have mn : ∀ i, vb (Value.slice (some ⟨gn, on, none⟩) (ns.length + 1) kn) = some i → i ∈ Qe.fp ⟨p, .slice (some ⟨gn, on, none⟩) (ns.length + 1) kn, .slice (some ⟨gw, ow, none⟩) (ws.length + 1) kw, qa, n :: ns, x :: ws⟩ := fun i e => List.mem_cons_of_mem _ (List.mem_append_left _ (by rw [e]; simp))
      have mw : ∀ i, vb (Value.slice (some ⟨gw, ow, none⟩) (ws.length + 1) kw) = some i → i ∈ Qe.fp ⟨p, .slice (some ⟨gn, on, none⟩) (ns.length + 1) kn, .slice (some ⟨gw, ow, none⟩) (ws.length + 1) kw, qa, n :: ns, x :: ws⟩ := fun i e => List.mem_cons_of_mem _ (List.mem_append_right _ (by rw [e]; simp))
      have HFIN := hid (take_fin h1 hE1 k1 HD.out.1 HD.out.2 (HRW.out.1.keeps k1 (fun i q1 q2 => HD.out.1 i (mn i q1) q2)) (HRW.out.2.keeps k1 (fun i q1 q2 => HD.out.1 i (mw i q1) q2)) rfl rfl)
      clear hh h1 k1 HH heq hE1 HRW HD mn mw
      go_wp2_with fail
      go_ret2
      exact ⟨rfl, HFIN.out⟩
end Go.Proofs.Ytadbplbifjeghaa


/- The document's Drop (layer 23). No statement of the seat is proved here. -/
namespace Go.Proofs.Ytadbplbifjeghaa
open Go.RowKit

theorem gives_cons0 (n : Int) (ns : List Int) (r : Wd) : givesU 0 ((n :: ns).map fun n => (n, (0 : Int))) r = bnd (giveU 0 n 2) (fun _ => givesU 0 (ns.map fun n => (n, (0 : Int)))) () r := rfl
theorem give_of_u {a n : Int} {s s1 : Wd} {e : Int} (h : giveU 0 a n s = (((), e), s1)) : s.give 0 a n = (e, s1) := by
  unfold giveU at h
  injection h with h1 h2
  injection h1 with h3 h4
  exact Prod.ext h4 h2
set_option maxRecDepth 100000 in
set_option maxHeartbeats 4000000 in
theorem rqdrop_any {b g c : Nat} {r r1 r2 : Wd} (e : Qe) (heq : Hid (givesU 0 (e.ns.map fun n => (n, 0)) r = (((), 0), r1))) (heq2 : Hid (r1.give 0 e.a 3 = (0, r2))) (hn : ∀ i, isW (oat e.ns i)) (ha : isW e.a) (hlen : e.ns.length < 100000) (w : World) (h : WdAt w b g c r) (he : EAt w e) (hd : ∀ i ∈ e.fp, ¬ two b g i) :
    Calls Try.prog 28 #[.pointer (some ⟨e.p, 0, none⟩), .pointer (some ⟨b, 0, none⟩)] w fun er w' => er = .returned (.tuple #[]) ∧ WdAt w' b g c r2 ∧ Keeps (two b g) w w' := by
  obtain ⟨p, vn, vw, qa, ns, ws⟩ := e
  dsimp only at heq heq2 hn ha hlen ⊢
  have HH := hid (And.intro h he)
  have HD := hid hd
  have HN := hid hn
  obtain ⟨an, cn, hv⟩ : ∃ a c, vn = .slice a ns.length c := he.rn.form
  subst hv
  clear h he hd hn
  go_enter Try.func28, Try.ntmps28
  go_wp2_with fail
  go_loopw [4] (fun iv wr => ∃ j : Nat, ∃ rj, j ≤ ns.length ∧ iv = .int .i64 (j : Int) ∧ Hid (givesU 0 ((ns.drop j).map fun n => (n, 0)) rj = (((), 0), r1) ∧ WdAt wr b g c rj ∧ Keeps (two b g) w wr)) (fun iv _ => ns.length - (intOf iv).toNat)
  case atStart => exact ⟨0, r, by omega, rfl, hid ⟨heq.out, HH.out.1, Keeps.refl _ _⟩⟩
  case round =>
    obtain ⟨j, rj, hj, rfl, hr⟩ := hrel
    have hE := HH.out.2.keeps hr.out.2.2 HD.out
    have c1 := hE.c1
    have c0 := hE.c0
    dsimp only at c1 c0
    by_cases hlt : j < ns.length
    · have hlti : (j : Int) < ns.length := by omega
      obtain ⟨x, hx⟩ : ∃ x, ns[j]? = some x := ⟨ns[j], by simp [hlt]⟩
      have hox : oat ns j = x := by unfold oat; rw [hx]; rfl
      have hdrop : ns.drop j = x :: ns.drop (j + 1) := by
        rw [List.drop_eq_getElem_cons hlt]
        congr 1
        have := List.getElem?_eq_getElem hlt
        rw [hx] at this
        injection this with this
        exact this.symm
      have hg := hr.out.1
      rw [hdrop, gives_cons0] at hg
      obtain ⟨⟨⟨⟨⟩, e1⟩, r'⟩, eqg⟩ : ∃ rr, giveU 0 x 2 rj = rr := ⟨_, rfl⟩
      have he1 : e1 = 0 := by
        by_cases h0 : e1 = 0
        · exact h0
        · rw [bnd_no eqg h0] at hg
          injection hg with q1 q2
          injection q1
      subst he1
      rw [bnd_ok eqg] at hg
      have HG := hid hg
      have HE : Hid (_ = _) := give_of_u eqg
      have hwx : isW x := by rw [← hox]; exact HN.out j
      obtain ⟨gs, off, cc, e, hc⟩ := hE.rn.lies.some (by show 0 < ns.length; omega)
      cases e
      have cx : wr.cell? ⟨gs, off + j, none⟩ = some (.int .u64 x) := by rw [← hox]; exact hc j hlt
      have HR := hid (And.intro hr.out.2.1 hr.out.2.2)
      clear hlt hx hox hdrop hg eqg hc hr hE
      go_wp2_with fail
      have hh := HR.out.1
      refine (rgive_r HE hwx hh).mono ?_
      rintro e_ w2 ⟨rfl, h2, k2⟩
      have HF := hid (And.intro h2 (HR.out.2.trans k2))
      clear hh h2 k2 HR HE
      go_wp2_with fail
      go_roundw
      case rel => exact ⟨j + 1, r', by omega, by simp, hid ⟨HG.out, HF.out.1, HF.out.2⟩⟩
      case measure => simp [intOf]; omega
    · obtain rfl : j = ns.length := by omega
      have hrr : rj = r1 := by
        have p := hr.out.1
        rw [List.drop_length] at p
        injection p
      have HR := hid (And.intro hr.out.2.1 hr.out.2.2)
      subst hrr
      clear hlt hr hE
      go_wp2_with fail
      have hh := HR.out.1
      refine (rgive_r heq2 ha hh).mono ?_
      rintro e_ w2 ⟨rfl, h2, k2⟩
      have HF := hid (And.intro h2 (HR.out.2.trans k2))
      clear hh h2 k2 HR
      go_wp2_with fail
      first | refine bodyPost_ret (results_none rfl _ _ _) rfl ?_ | refine bodyPost_end (results_none rfl _ _ _) rfl ?_
      exact ⟨rfl, HF.out.1, HF.out.2⟩
end Go.Proofs.Ytadbplbifjeghaa
