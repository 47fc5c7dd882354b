
/- The document's queues as they lie; its New and Put (layer 23). No statement of the seat is proved here. -/
import Derived.Test.YtadbplbifjeghaaQxF
import Derived.Test.YtadbplbifjeghaaQuEa
import Derived.Test.YtadbplbifjeghaaQuEb
namespace Go.Proofs.Ytadbplbifjeghaa
open Go.RowKit

/-- A queue of the document's, as it lies: its box, its two rows. -/
structure Qe where
  p : Nat
  vn : Value
  vw : Value
  a : Int
  ns : List Int
  ws : List Int
def Qe.fp (e : Qe) : List Nat := e.p :: ((vb e.vn).toList ++ (vb e.vw).toList)
structure EAt (w : World) (e : Qe) : Prop where
  bx : w.heap[e.p]? = some (.cells #[.int .u64 e.a, e.vn, e.vw] 42 (0, 0))
  rn : Rw w e.vn e.ns
  rw : Rw w e.vw e.ws
section
variable {w w' : World} {e : Qe}
theorem EAt.keeps {S : Nat → Prop} (h : EAt w e) (k : Keeps S w w') (hs : ∀ i ∈ e.fp, ¬ S i) : EAt w' e :=
  ⟨(k.block _ (lt_of_block h.bx) (hs _ List.mem_cons_self)).trans h.bx, h.rn.keeps k (fun g hg => hs g (List.mem_cons_of_mem _ (List.mem_append_left _ (by rw [hg]; simp)))), h.rw.keeps k (fun g hg => hs g (List.mem_cons_of_mem _ (List.mem_append_right _ (by rw [hg]; simp))))⟩
theorem EAt.lt (h : EAt w e) : ∀ i ∈ e.fp, i < w.heap.size := fun i hi => by
  rcases List.mem_cons.1 hi with rfl | hi
  · exact lt_of_block h.bx
  · rcases List.mem_append.1 hi with hi | hi
    · exact h.rn.lt (by simpa using hi)
    · exact h.rw.lt (by simpa using hi)
theorem EAt.c0 (h : EAt w e) : w.cell? ⟨e.p, 0, none⟩ = some (.int .u64 e.a) := by rw [cell_of_block h.bx]; rfl
theorem EAt.c1 (h : EAt w e) : w.cell? ⟨e.p, 1, none⟩ = some e.vn := by rw [cell_of_block h.bx]; rfl
theorem EAt.c2 (h : EAt w e) : w.cell? ⟨e.p, 2, none⟩ = some e.vw := by rw [cell_of_block h.bx]; rfl
theorem EAt.fz (h : EAt w e) (i : Nat) : w.frozen? ⟨e.p, i, none⟩ = false := frozen_of_block h.bx i
end

/-- New. -/
theorem rqnew_any {b g c : Nat} {r r1 : Wd} {a e1 : Int} (heq : Hid (r.take 0 3 = ((a, e1), r1))) (w : World) (h : WdAt w b g c r) :
    Calls Try.prog 20 #[.pointer (some ⟨b, 0, none⟩)] w fun e w' => ∃ v, e = .returned (.tuple #[v, .int .i64 e1]) ∧ WdAt w' b g c r1 ∧ Keeps (two b g) w w' ∧ (e1 = 0 → ∃ p, v = .pointer (some ⟨p, 0, none⟩) ∧ w.heap.size ≤ p ∧ EAt w' ⟨p, .slice none 0 0, .slice none 0 0, a, [], []⟩) ∧ (e1 ≠ 0 → v = .pointer none) := by
  have HH := hid h
  clear h
  by_cases he : e1 = 0
  · subst he
    go_enter Try.func20, Try.ntmps20
    go_wp2_with fail
    have hh := HH.out
    refine (rtake_r heq zero_isW hh).mono ?_
    rintro e_ w1 ⟨rfl, h1, k1⟩
    have HF := hid (And.intro h1 k1)
    clear hh h1 k1 HH heq
    go_wp2_with fail
    go_ret2
    refine ⟨_, rfl, HF.out.1.kept ((Keeps.refl (fun _ => False) w1).alloc _) (fun f => f) (fun f => f), HF.out.2.alloc _, fun _ => ⟨_, rfl, HF.out.2.size, ⟨alloc_block w1 _, Rw.nil _, Rw.nil _⟩⟩, fun q => absurd rfl q⟩
  · go_enter Try.func20, Try.ntmps20
    go_wp2_with fail
    have hh := HH.out
    refine (rtake_r heq zero_isW hh).mono ?_
    rintro e_ w1 ⟨rfl, h1, k1⟩
    have HF := hid (And.intro h1 k1)
    clear hh h1 k1 HH heq
    go_wp2_with fail
    go_ret2
    exact ⟨_, rfl, HF.out.1, HF.out.2, fun q => absurd q he, fun _ => rfl⟩

/-- What Put leaves. -/
def PutPost (e : Qe) (a x : Int) (b g c : Nat) (r1 : Wd) (w w' : World) : Prop :=
  ∃ vn' vw', EAt w' ⟨e.p, vn', vw', e.a, e.ns ++ [a], e.ws ++ [x]⟩ ∧ WdAt w' b g c r1 ∧ Keeps (fun i => two b g i ∨ i ∈ e.fp) w w' ∧ (∀ i, vb vn' = some i → vb e.vn = some i ∨ w.heap.size ≤ i) ∧ (∀ i, vb vw' = some i → vb e.vw = some i ∨ w.heap.size ≤ i) ∧ (∀ i j, vb vn' = some i → vb vw' = some j → i ≠ j)
set_option maxRecDepth 100000 in
set_option maxHeartbeats 4000000 in
theorem rqput_any {b g c : Nat} {r r1 : Wd} {a e1 : Int} (heq : Hid (r.take 0 2 = ((a, e1), r1))) (e : Qe) (x : Int) (w : World) (h : WdAt w b g c r) (he : EAt w e) (hd : ∀ i ∈ e.fp, ¬ two b g i) (hn : e.fp.Nodup) (hl : e.ns.length < 100000 ∧ e.ws.length < 100000) :
    Calls Try.prog 22 #[.pointer (some ⟨e.p, 0, none⟩), .pointer (some ⟨b, 0, none⟩), .int .u64 x] w fun er w' => er = .returned (.int .i64 e1) ∧ (e1 = 0 → PutPost e a x b g c r1 w w') ∧ (e1 ≠ 0 → WdAt w' b g c r1 ∧ EAt w' e ∧ Keeps (two b g) w w') := by
  have HH := hid (And.intro h he)
  have HD := hid (And.intro hd (And.intro hn hl))
  clear h he hd hn hl
  obtain ⟨p, vn, vw, qa, ns, ws⟩ := e
  by_cases he1 : e1 = 0
  · subst he1
    go_enter Try.func22, Try.ntmps22
    go_wp2_with fail
    have hh := HH.out.1
    refine (rtake_r heq zero_isW hh).mono ?_
    rintro e_ w1 ⟨rfl, h1, k1⟩
    have hE1 := HH.out.2.keeps k1 HD.out.1
    have c1 := hE1.c1
    try dsimp only at c1
    obtain ⟨vn', wa, hrun, hrn, hka, hva⟩ := hE1.rn.push HD.out.2.2.1 a
    try dsimp only at hrun hrn hka hva
    have hpn : p ∉ (vb vn).toList ++ (vb vw).toList := (List.nodup_cons.1 HD.out.2.1).1
    have hpvn : vb vn ≠ some p := fun e => hpn (List.mem_append_left _ (by rw [e]; simp))
    have hpvw : vb vw ≠ some p := fun e => hpn (List.mem_append_right _ (by rw [e]; simp))
    have hnw : ∀ i, vb vn = some i → vb vw ≠ some i := fun i e1 e2 => by
      have q := (List.nodup_cons.1 HD.out.2.1).2
      dsimp only at q
      rw [e1, e2] at q
      simp at q
    have bxa : wa.heap[p]? = some (.cells #[.int .u64 qa, vn, vw] 42 (0, 0)) := (hka.block p (lt_of_block hE1.bx) hpvn).trans hE1.bx
    have fa1 : wa.frozen? ⟨p, 1, none⟩ = false := frozen_of_block bxa _
    have fa2 : wa.frozen? ⟨p, 2, none⟩ = false := frozen_of_block bxa _
    have ca1 : wa.cell? ⟨p, 1, none⟩ = some vn := by rw [cell_of_block bxa]; rfl
    have ca2 : wa.cell? ⟨p, 2, none⟩ = some vw := by rw [cell_of_block bxa]; rfl
    have hrw0 : Rw wa vw ws := hE1.rw.keeps hka (fun i h1 h2 => hnw i h2 h1)
    have ks : Keeps (fun i => i = p) wa (wa.setCell ⟨p, 1, none⟩ vn') := (Keeps.refl (fun i => i = p) wa).setCell (p := ⟨p, 1, none⟩) (.inr rfl) _
    have hpvn' : vb vn' ≠ some p := fun e => by
      rcases hva p e with q | q
      · exact hpvn q
      · have := lt_of_block hE1.bx; dsimp only at this; omega
    have hrw1 : Rw (wa.setCell ⟨p, 1, none⟩ vn') vw ws := hrw0.keeps ks (fun i h1 h2 => by subst h2; exact hpvw h1)
    obtain ⟨vw', wb, hrun2, hrw2, hkb, hvb⟩ := hrw1.push HD.out.2.2.2 x
    try dsimp only at hrun2 hrw2 hkb hvb
    have hszs : (wa.setCell ⟨p, 1, none⟩ vn').heap.size = wa.heap.size := by simp
    rw [hszs] at hrun2
    have HR : Hid (_ = _) := hrun
    have HR2 : Hid (_ = _) := hrun2
    have bxs : (wa.setCell ⟨p, 1, none⟩ vn').heap[p]? = some (.cells #[.int .u64 qa, vn', vw] 42 (0, 0)) := block_set bxa 1 _
    have bxb : wb.heap[p]? = some (.cells #[.int .u64 qa, vn', vw] 42 (0, 0)) := (hkb.block p (lt_of_block bxs) hpvw).trans bxs
    have cb2 : wb.cell? ⟨p, 2, none⟩ = some vw := by rw [cell_of_block bxb]; rfl
    have fb2 : wb.frozen? ⟨p, 2, none⟩ = false := frozen_of_block bxb _
    have kf : Keeps (fun i => i = p) wb (wb.setCell ⟨p, 2, none⟩ vw') := (Keeps.refl (fun i => i = p) wb).setCell (p := ⟨p, 2, none⟩) (.inr rfl) _
    have bxf : (wb.setCell ⟨p, 2, none⟩ vw').heap[p]? = some (.cells #[.int .u64 qa, vn', vw'] 42 (0, 0)) := block_set bxb 2 _
    have szb : wa.heap.size ≤ wb.heap.size := by rw [← hszs]; exact hkb.size
    have hlt1 := HH.out.2.lt
    have HFIN : Hid (PutPost ⟨p, vn, vw, qa, ns, ws⟩ a x b g c r1 w (wb.setCell ⟨p, 2, none⟩ vw')) := by
      have hvn'lt : ∀ i, vb vn' = some i → i < wa.heap.size := fun i e => hrn.lt e
      have hvw'p : vb vw' ≠ some p := fun e => by
        rcases hvb p e with q | q
        · exact hpvw q
        · have := lt_of_block bxs; rw [hszs] at q; simp at this; omega
      have hvnw : ∀ i j, vb vn' = some i → vb vw' = some j → i ≠ j := fun i j e1 e2 hij => by
        subst hij
        rcases hvb i e2 with q | q
        · rcases hva i e1 with q2 | q2
          · exact hnw i q2 q
          · have := hE1.rw.lt q; omega
        · rw [hszs] at q
          have := hvn'lt i e1
          omega
      have hvnkb : ∀ i, vb vn' = some i → ¬ vb vw = some i := fun i e1 q => by
        rcases hva i e1 with q2 | q2
        · exact hnw i q2 q
        · have := hE1.rw.lt q
          try dsimp only at this
          omega
      have kall : Keeps (fun i => two b g i ∨ i ∈ Qe.fp ⟨p, vn, vw, qa, ns, ws⟩) w (wb.setCell ⟨p, 2, none⟩ vw') := by
        have q1 := (k1.mono (T := fun i => two b g i ∨ i ∈ Qe.fp ⟨p, vn, vw, qa, ns, ws⟩) (fun _ _ e => .inl e))
        have q2 := hka.mono (T := fun i => two b g i ∨ i ∈ Qe.fp ⟨p, vn, vw, qa, ns, ws⟩) (fun i _ e => .inr (List.mem_cons_of_mem _ (List.mem_append_left _ (by rw [e]; simp))))
        have q3 := ks.mono (T := fun i => two b g i ∨ i ∈ Qe.fp ⟨p, vn, vw, qa, ns, ws⟩) (fun i _ e => .inr (by subst e; exact List.mem_cons_self))
        have q4 := hkb.mono (T := fun i => two b g i ∨ i ∈ Qe.fp ⟨p, vn, vw, qa, ns, ws⟩) (fun i _ e => .inr (List.mem_cons_of_mem _ (List.mem_append_right _ (by rw [e]; simp))))
        have q5 := kf.mono (T := fun i => two b g i ∨ i ∈ Qe.fp ⟨p, vn, vw, qa, ns, ws⟩) (fun i _ e => .inr (by subst e; exact List.mem_cons_self))
        exact (((q1.trans q2).trans q3).trans q4).trans q5
      have hrn' : Rw (wb.setCell ⟨p, 2, none⟩ vw') vn' (ns ++ [a]) := ((hrn.keeps ks (fun i h1 h2 => by subst h2; exact hpvn' h1)).keeps hkb (fun i h1 h2 => hvnkb i h1 h2)).keeps kf (fun i h1 h2 => by subst h2; exact hpvn' h1)
      have hdb : ∀ i ∈ Qe.fp ⟨p, vn, vw, qa, ns, ws⟩, ¬ two b g i := HD.out.1
      have hw : WdAt (wb.setCell ⟨p, 2, none⟩ vw') b g c r1 := by
        have nb : ∀ i, two b g i → i ∉ Qe.fp ⟨p, vn, vw, qa, ns, ws⟩ := fun i h1 h2 => hdb i h2 h1
        have mn : ∀ i, vb vn = some i → i ∈ Qe.fp ⟨p, vn, vw, qa, ns, ws⟩ := fun i e => List.mem_cons_of_mem _ (List.mem_append_left _ (by rw [e]; simp))
        have mw : ∀ i, vb vw = some i → i ∈ Qe.fp ⟨p, vn, vw, qa, ns, ws⟩ := fun i e => List.mem_cons_of_mem _ (List.mem_append_right _ (by rw [e]; simp))
        have mp : p ∈ Qe.fp ⟨p, vn, vw, qa, ns, ws⟩ := List.mem_cons_self
        have z1 := h1.kept hka (fun e => nb b (.inl rfl) (mn b e)) (fun e => nb g (.inr rfl) (mn g e))
        have z2 := z1.kept ks (fun e => nb b (.inl rfl) (by rw [e]; exact mp)) (fun e => nb g (.inr rfl) (by rw [e]; exact mp))
        have z3 := z2.kept hkb (fun e => nb b (.inl rfl) (mw b e)) (fun e => nb g (.inr rfl) (mw g e))
        exact z3.kept kf (fun e => nb b (.inl rfl) (by rw [e]; exact mp)) (fun e => nb g (.inr rfl) (by rw [e]; exact mp))
      refine hid ⟨vn', vw', ⟨bxf, hrn', hrw2.keeps kf (fun i h1 h2 => by subst h2; exact hvw'p h1)⟩, hw, kall, fun i e => ?_, fun i e => ?_, hvnw⟩
      · rcases hva i e with q | q
        · exact .inl q
        · exact .inr (by have := k1.size; omega)
      · rcases hvb i e with q | q
        · exact .inl q
        · rw [hszs] at q
          exact .inr (by have := k1.size; have := hka.size; omega)
    obtain ⟨an, cn, en⟩ := hrn.form
    obtain ⟨aw, cw, ew⟩ := hrw2.form
    rw [List.length_append, List.length_singleton] at en ew
    subst en
    subst ew
    obtain ⟨an0, cn0, rfl⟩ : ∃ a c, vn = .slice a ns.length c := hE1.rn.form
    obtain ⟨aw0, cw0, rfl⟩ : ∃ a c, vw = .slice a ws.length c := hE1.rw.form
    clear hh h1 k1 HH heq hrun hrun2 hE1 hrn hka hva hpn hpvn hpvw hnw bxa hrw0 ks hpvn' hrw1 hrw2 hkb hvb hszs bxs bxb kf bxf szb hlt1
    go_wp2_with (at_builtin; first | (refine wpList_append_run rfl _ _ 36 rfl rfl rfl HR.out ?_; clear HR) | (refine wpList_append_run rfl _ _ 36 rfl rfl rfl HR2.out ?_; clear HR2))
    go_ret
    exact ⟨rfl, fun _ => HFIN.out, fun q => absurd rfl q⟩
  · go_enter Try.func22, Try.ntmps22
    go_wp2_with fail
    have hh := HH.out.1
    refine (rtake_r heq zero_isW hh).mono ?_
    rintro e_ w1 ⟨rfl, h1, k1⟩
    have HF := hid (And.intro h1 (And.intro (HH.out.2.keeps k1 HD.out.1) k1))
    clear hh h1 k1 HH heq
    go_wp2_with fail
    go_ret
    exact ⟨rfl, fun q => absurd q he1, fun _ => HF.out⟩
end Go.Proofs.Ytadbplbifjeghaa
