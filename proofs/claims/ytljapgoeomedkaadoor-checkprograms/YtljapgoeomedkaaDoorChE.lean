
/- Walks of spread (package check): ways gone along by a list that grows. No statement of the seat is proved here. -/
import Derived.Test.YtljapgoeomedkaaDoorChD
namespace Go.Proofs.YtljapgoeomedkaaDoor
open Go.RowKit Go.Shelf

theorem at5_some {p : List I5} {a : Nat} (h : a < p.length) : p[a]? = some (at5 p a) := by simp [at5, h]
/-- What holds of the list while ways are gone along. -/
structure Way (p : List I5) (L : List (Nat × Bool)) : Prop where
  start : (0, false) ∈ L
  reach : ∀ x ∈ L, Reach p x.1 x.2
  nodup : L.Nodup
def Shut (p : List I5) (L : List (Nat × Bool)) (k : Nat) : Prop := ∀ x ∈ L.take k, ∀ b ∈ folL (at5 p x.1) x.1, b < p.length ∧ (b, sideB (at5 p x.1).op x.2) ∈ L
theorem Way.lt {p : List I5} {L : List (Nat × Bool)} (h : Way p L) (hp : 0 < p.length) : ∀ x ∈ L, x.1 < p.length := fun x hx => reach_lt hp (h.reach x hx)
theorem Way.one (p : List I5) : Way p [(0, false)] := ⟨by simp, fun x hx => by simp at hx; subst hx; exact .start, by simp⟩
theorem Way.push {p : List I5} {L : List (Nat × Bool)} (h : Way p L) (hp : 0 < p.length) {a : Nat} {s : Bool} (hx : (a, s) ∈ L) {b : Nat} (hb : b ∈ folL (at5 p a) a) (hlt : b < p.length) (hn : (b, sideB (at5 p a).op s) ∉ L) : Way p (L ++ [(b, sideB (at5 p a).op s)]) := by
  refine ⟨by simp [h.start], fun y hy => ?_, ?_⟩
  · rcases List.mem_append.1 hy with hy | hy
    · exact h.reach y hy
    · simp at hy; subst hy
      exact .step (h.reach _ hx) (at5_some (h.lt hp _ hx)) hb hlt
  · rw [List.nodup_append]
    refine ⟨h.nodup, by simp, ?_⟩
    intro y hy z hz e
    simp at hz
    subst hz; subst e
    exact hn hy
theorem Shut.push {p : List I5} {L : List (Nat × Bool)} {k : Nat} (h : Shut p L k) (hk : k ≤ L.length) (y : Nat × Bool) : Shut p (L ++ [y]) k := by
  intro x hx b hb
  rw [List.take_append_of_le_length hk] at hx
  obtain ⟨h1, h2⟩ := h x hx b hb
  exact ⟨h1, List.mem_append_left _ h2⟩
theorem Shut.more {p : List I5} {L : List (Nat × Bool)} {k : Nat} (h : Shut p L k) {a : Nat} {s : Bool} (hk : L[k]? = some (a, s)) (hb : ∀ b ∈ folL (at5 p a) a, b < p.length ∧ (b, sideB (at5 p a).op s) ∈ L) : Shut p L (k + 1) := by
  intro x hx
  obtain ⟨hkl, he⟩ := List.getElem?_eq_some_iff.1 hk
  rw [List.take_succ_eq_append_getElem hkl] at hx
  rcases List.mem_append.1 hx with hx | hx
  · exact h x hx
  · simp [he] at hx; subst hx; exact hb
theorem Shut.all {p : List I5} {L : List (Nat × Bool)} (h : Way p L) (hs : Shut p L L.length) : reachB p = (fun a s => decide ((a, s) ∈ L)) ∧ ∀ k, k < p.length → behF (reachB p) p k = false := by
  have hs' : ∀ x ∈ L, ∀ b ∈ folL (at5 p x.1) x.1, b < p.length ∧ (b, sideB (at5 p x.1).op x.2) ∈ L := by
    intro x hx; exact hs x (by rw [List.take_length]; exact hx)
  have hR := reachB_eq (p := p) (L := L) h.start (fun x hx i hi b hb _ => by
    have e : i = at5 p x.1 := by simp [at5, hi]
    subst e
    exact (hs' x hx b hb).2) h.reach
  refine ⟨hR, fun k hk => ?_⟩
  unfold behF
  rw [hR]
  simp only [Bool.and_eq_false_imp, Bool.or_eq_true, decide_eq_true_eq, List.any_eq_false]
  rintro (hm | hm) b hb hle
  · have := (hs' _ hm b hb).1; omega
  · have := (hs' _ hm b hb).1; omega

/-- Of a program all of whose targets are places a follower that is none is the one behind the last place. -/
theorem stray {p : List I5} (ht : ∀ k, k < p.length → tgtF p k = false) (hwf : ∀ i ∈ p, i.wf) (hl : p.length ≤ 256) {a b : Nat} (ha : a < p.length) (hb : b ∈ folL (at5 p a) a) (hle : p.length ≤ b) : a + 1 = p.length := by
  have h := ht a ha
  have hm : at5 p a ∈ p := by
    have := at5_some ha
    exact List.mem_of_getElem? this
  have hw := (hwf _ hm).2.2.2.2
  unfold tgtF at h
  generalize at5 p a = i at *
  obtain ⟨op, ia, ib, ic, n⟩ := i
  dsimp only at *
  have hbt : (op = 8 ∨ op = 16 ∨ op = 9) → tgtB op = true := by rintro (rfl | rfl | rfl) <;> rfl
  have tn : (op = 8 ∨ op = 16 ∨ op = 9) → n < p.length := fun ho => by
    rw [hbt ho] at h
    simpa using h
  unfold folL tgtN at hb
  dsimp only at hb
  by_cases h1 : op = 17
  · rw [if_pos h1] at hb; simp at hb
  · rw [if_neg h1] at hb
    by_cases h2 : op = 8 ∨ op = 16
    · rw [if_pos h2] at hb
      have := tn (by omega)
      simp at hb; omega
    · rw [if_neg h2] at hb
      by_cases h3 : op = 9
      · rw [if_pos h3] at hb
        have := tn (by omega)
        split at hb
        · simp at hb; omega
        · split at hb
          · simp at hb; omega
          · simp at hb; omega
      · rw [if_neg h3] at hb
        simp at hb; omega

theorem folL_len (i : I5) (a : Nat) : (folL i a).length ≤ 2 := by
  unfold folL
  split
  · simp
  · split
    · simp
    · split
      · split
        · simp
        · split <;> simp
      · simp
/-- What spread answers. -/
def SPost (p : List I5) (w : World) (e : Ending) (w' : World) : Prop := ∃ (f : Nat) (x : Int), e = .returned (.tuple #[.slice (some ⟨f, 0, none⟩) p.length p.length, .int .i64 x]) ∧ w.heap.size ≤ f ∧ Keeps (fun _ => False) w w' ∧
  ((x = -1 ∧ Fnd w' f p.length (reachB p) ∧ ∀ k, k < p.length → behF (reachB p) p k = false) ∨ (x + 1 = p.length ∧ ∃ s b, Reach p (p.length - 1) s ∧ b ∈ folL (at5 p (p.length - 1)) (p.length - 1) ∧ p.length ≤ b))

set_option maxRecDepth 100000 in
set_option maxHeartbeats 4000000 in
theorem spread_any (FA : FolOk) (v : Value) (p : List I5) (w : World) (h : InsAt w v p) (hp : 0 < p.length) (hl : p.length ≤ 256) (ht : ∀ k, k < p.length → tgtF p k = false) : Calls Tryd.prog 46 #[v] w (SPost p w) := by
  have HI : Hid (InsAt w v p) := h
  obtain ⟨⟨av, cap, rfl, hc⟩, hwf, hbig⟩ := h
  clear hc
  obtain ⟨cs, hmk, hF⟩ := run_sides w p.length (by omega)
  have hmark := hF.mark hp false
  simp only [Nat.zero_mul, Bool.toNat_false, Nat.add_zero] at hmark
  have fz := hF.frozen 0
  have c0 := (hF.cell hp).1
  simp only [Nat.zero_mul] at c0
  go_enter Tryd.func46, Tryd.ntmps46
  go_wp2_with fail
  go_step3
  go_wp2_with fail
  go_step3
  go_wp2_with fail
  have e0 : ((w.alloc (.cells cs 76)).setCell ⟨w.heap.size, 0, none⟩ (.bool true)) = w.alloc (.cells (cs.setIfInBounds 0 (.bool true)) 76) := World.setCell_alloc_new _ _ _ _
  rw [e0] at hmark
  have k1 := (Keeps.refl (fun _ => False) w).alloc (.cells (cs.setIfInBounds 0 (.bool true)) 76)
  have L1 := Pts.one (w.alloc (.cells (cs.setIfInBounds 0 (.bool true)) 76))
  have F1 := hmark.keeps ((Keeps.refl (fun _ => False) _).alloc (.cells #[.int .i64 0, .int .i64 0] 108)) (fun f => f)
  have k2 := k1.alloc (.cells #[.int .i64 0, .int .i64 0] 108)
  have em : markR (fun _ _ => false) 0 false = fun a s => decide ((a, s) ∈ [((0 : Nat), false)]) := by
    funext a s; unfold markR; rw [Bool.eq_iff_iff]; simp
  rw [em] at F1
  rw [show (w.alloc (.cells (cs.setIfInBounds 0 (.bool true)) 76)).heap.size = w.heap.size + 1 by simp] at L1
  clear hmk hF hmark fz c0 e0 k1 em
  go_loopw [5, 6, 7] (fun y u m wr => ∃ (k : Nat) (L : List (Nat × Bool)), y = .int .i64 (-1) ∧ m = .int .i64 k ∧ k ≤ L.length ∧ Hid (Way p L ∧ Shut p L k ∧ Pts wr w.heap.size u L ∧ Fnd wr w.heap.size p.length (fun a s => decide ((a, s) ∈ L)) ∧ Keeps (fun _ => False) w wr ∧ u.ownBlock ≠ some w.heap.size)) (fun _ _ m _ => 2 * p.length + 1 - (intOf m).toNat)
  case atStart => exact ⟨0, [(0, false)], rfl, rfl, by simp, ⟨Way.one p, fun x hx => by simp at hx, L1.base_le (by omega), F1, k2, by simp [Value.ownBlock]⟩⟩
  case round =>
    clear L1 F1 k2
    obtain ⟨k, L, rfl, rfl, hkl, hh⟩ := hrel
    obtain ⟨hW, hS, hL, hF, hK, hn⟩ := hh.out
    obtain ⟨lb, lc, rfl⟩ := hL.form
    have hLe := pts_le hW.nodup (hW.lt hp)
    by_cases hlt : k < L.length
    · have hki : (k : Int) < L.length := by omega
      obtain ⟨g, rfl, hg, c0, c1⟩ := hL.at k hlt
      have hx := List.getElem_mem hlt
      have hxe := List.getElem?_eq_getElem hlt
      have hxl := hW.lt hp _ hx
      generalize hx0 : L[k]'hlt = x at *
      obtain ⟨a, s⟩ := x
      dsimp only at c0 c1 hxl
      have hb : g < wr.heap.size := World.block_lt_of_cell? _ _ c0
      have hf := hF.lt
      obtain ⟨W1, hW1⟩ : ∃ W, W = wr.alloc (.cells #[.int .i64 a, .int .i64 (sideN s)] 108) := ⟨_, rfl⟩
      have hK1 : Keeps (fun _ => False) w W1 := by rw [hW1]; exact hK.alloc _
      obtain ⟨⟨av', cap', hv, hc⟩, -, -⟩ := HI.out.keeps hK1
      cases hv
      obtain ⟨pg, po, rfl, d0, d1, d2, d3, d4⟩ := hc a hxl
      have hw5 := hwf _ (List.getElem_mem hxl)
      have h5 : p[a]'hxl = at5 p a := by simp [at5, hxl]
      rw [h5] at d0 d1 d2 d3 d4 hw5
      have SB := behind_any (at5 p a).op s
      have FL := FA (at5 p a) hw5 a (by omega)
      generalize hi : at5 p a = i at *
      have HI5 : Hid (at5 p a = i) := hi
      obtain ⟨op, ia, ib, ic, n⟩ := i
      dsimp only at d0 d1 d2 d3 d4 SB
      clear hi h5 hx0 hh hc hwf
      rw [hW1] at d0 d1 d2 d3 d4
      have HP : Hid (Pts wr w.heap.size (.slice (some ⟨g, 0, none⟩) L.length lc) L ∧ Fnd wr w.heap.size p.length (fun a s => decide ((a, s) ∈ L)) ∧ Keeps (fun _ => False) w W1 ∧ Way p L ∧ Shut p L k) := ⟨hL, hF, hK1, hW, hS⟩
      clear hL hF hK hK1 hW hS
      go_wp2_with fail
      refine (SB _).mono ?_
      rintro e w1 ⟨rfl, rfl⟩
      go_wp2_with fail
      refine (FL _).mono ?_
      rintro e w2 ⟨vF, rfl, hIt, hK2⟩
      obtain ⟨fb, fc, rfl⟩ := hIt.form
      generalize hFL : folL ⟨op, ia, ib, ic, n⟩ a = F at *
      rw [List.length_map] at hIt ⊢
      go_wp2_with fail
      obtain ⟨hL, hF, hK1, hW, hS⟩ := HP.out
      have kA : Keeps (fun _ => False) wr ((wr.alloc (.cells #[.int .i64 a, .int .i64 (sideN s)] 108)).alloc (.cells #[.int .i64 op, .int .i64 ia, .int .i64 ib, .int .i64 ic, .int .u64 n] 50)) := ((Keeps.refl _ _).alloc _).alloc _
      have kB := kA.trans hK2
      have L2 := hL.keeps kB (fun _ _ f => f)
      have F2 := hF.keeps kB (fun f => f)
      have K2 : Keeps (fun _ => False) w w2 := (by rw [hW1] at hK1; exact (hK1.alloc _).trans hK2)
      have B2 : w2.heap[wr.heap.size]? = some (.cells #[.int .i64 a, .int .i64 (sideN s)] 108 (0, 0)) := (hK2.block _ (by simp; omega) (fun f => f)).trans ((Below.heap_alloc _ _ _ (by simp)).trans (MapKept.heap_alloc _ _).1)
      have ne1 : (some g) ≠ some wr.heap.size := by intro e; cases e; omega
      have ne2 : ∀ q, (Value.slice fb F.length fc).ownBlock = some q → some g ≠ some q := fun q hq e => by
        cases e; have := (own_block hIt.own hq).2; simp at this; omega
      have ob2 : ∀ q, (Value.slice fb F.length fc).ownBlock = some q → w.heap.size ≠ q := fun q hq e => by
        cases e; have := (own_block hIt.own hq).2; simp at this; omega
      generalize hbs : ((wr.alloc (.cells #[.int .i64 a, .int .i64 (sideN s)] 108)).alloc (.cells #[.int .i64 op, .int .i64 ia, .int .i64 ib, .int .i64 ic, .int .u64 n] 50)).heap.size = bs at *
      have hop : sideB op s = sideB (at5 p a).op s := by rw [HI5.out]
      have hFL' : folL (at5 p a) a = F := by rw [HI5.out]; exact hFL
      have hF2 : F.length ≤ 2 := hFL' ▸ folL_len _ _
      generalize hts : sideB op s = t at *
      have HOP : Hid (t = sideB (at5 p a).op s) := hop
      clear hts hop
      clear hL hF hK1 kA kB hK2 FL SB d0 d1 d2 d3 d4 c0 c1 HP hFL hW1 HI5 hw5 hbs
      obtain ⟨hb0, hhb⟩ : ∃ x, x = wr.heap.size := ⟨_, rfl⟩
      rw [← hhb] at B2 ne1 ⊢
      have ob0 : hb0 ≠ w.heap.size := by omega
      clear hb hf hhb
      go_loopw [5, 6, 46] (fun y u m wr' => ∃ (j : Nat) (L' : List (Nat × Bool)), y = .int .i64 (-1) ∧ m = .int .i64 j ∧ j ≤ F.length ∧ Hid (Way p L' ∧ Shut p L' k ∧ L'[k]? = some (a, s) ∧ Pts wr' w.heap.size u L' ∧ Fnd wr' w.heap.size p.length (fun a s => decide ((a, s) ∈ L')) ∧ Keeps (fun _ => False) w wr' ∧ u.ownBlock ≠ some w.heap.size ∧ Its wr' bs (.slice fb F.length fc) (F.map fun (n : Nat) => (n : Int)) ∧ wr'.heap[hb0]? = some (.cells #[.int .i64 a, .int .i64 (sideN s)] 108 (0, 0)) ∧ u.ownBlock ≠ some hb0 ∧ (∀ q, (Value.slice fb F.length fc).ownBlock = some q → u.ownBlock ≠ some q) ∧ ∀ b ∈ F.take j, b < p.length ∧ (b, t) ∈ L')) (fun _ _ m _ => F.length - (intOf m).toNat)
      case atStart => exact ⟨0, L, rfl, rfl, Nat.zero_le _, ⟨hW, hS, hxe, L2, F2, K2, hn, hIt, B2, ne1, ne2, fun b hb => by simp at hb⟩⟩
      case round =>
        clear hW hS hxe L2 F2 K2 hn hIt B2 ne1 ne2 hx
        obtain ⟨j, L', rfl, rfl, hjF, hh⟩ := hrel
        obtain ⟨hW, hS, hxe, hL, hF, hK, hn, hIt, hB, n1, n2, hT⟩ := hh.out
        obtain ⟨hkL, hke⟩ := List.getElem?_eq_some_iff.1 hxe
        have hx : (a, s) ∈ L' := hke ▸ List.getElem_mem hkL
        have hLe' := pts_le hW.nodup (hW.lt hp)
        by_cases hjl : j < F.length
        · have hji : (j : Int) < F.length := by omega
          obtain ⟨q, rfl, hq, cF⟩ := hIt.at j (by simpa using hjl)
          have hbF := List.getElem_mem hjl
          have hTk := List.take_succ_eq_append_getElem hjl
          simp only [List.getElem_map] at cF
          generalize F[j]'hjl = b at *
          by_cases hbn : p.length ≤ b
          · have hbi : (p.length : Int) ≤ b := by omega
            have h0 : wr.cell? ⟨hb0, 0, none⟩ = some (.int .i64 a) := by rw [cell_of_block hB]; rfl
            clear hh
            go_wp2_with fail
            go_ret2
            have ha : a + 1 = p.length := stray ht (fun i hi => HI.out.wf i hi) hl hxl (hFL' ▸ hbF) hbn
            have e1 : p.length - 1 = a := by omega
            refine ⟨_, _, rfl, Nat.le_refl _, hK, .inr ⟨by omega, s, b, ?_⟩⟩
            rw [e1]
            exact ⟨hW.reach _ hx, hFL' ▸ hbF, hbn⟩
          · have hbi : ¬ (p.length : Int) ≤ b := by omega
            have hbn' : b < p.length := by omega
            by_cases hm : (b, t) ∈ L'
            · have cf : wr.cell? ⟨w.heap.size, b * 2 + t.toNat, none⟩ = some (.bool true) := by
                have := hF.cell hbn'
                cases t
                · simpa [hm] using this.1
                · simpa [hm] using this.2
              have hR : Hid (Way p L' ∧ Shut p L' k ∧ L'[k]? = some (a, s) ∧ Pts wr w.heap.size u6 L' ∧ Fnd wr w.heap.size p.length (fun a s => decide ((a, s) ∈ L')) ∧ Keeps (fun _ => False) w wr ∧ u6.ownBlock ≠ some w.heap.size ∧ Its wr bs (.slice (some ⟨q, 0, none⟩) F.length fc) (F.map fun (n : Nat) => (n : Int)) ∧ wr.heap[hb0]? = some (.cells #[.int .i64 a, .int .i64 (sideN s)] 108 (0, 0)) ∧ u6.ownBlock ≠ some hb0 ∧ (∀ z, (Value.slice (some ⟨q, 0, none⟩) F.length fc).ownBlock = some z → u6.ownBlock ≠ some z) ∧ ∀ b ∈ F.take (j + 1), b < p.length ∧ (b, t) ∈ L') := ⟨hW, hS, hxe, hL, hF, hK, hn, hIt, hB, n1, n2, fun c hc => by
                rw [hTk] at hc
                rcases List.mem_append.1 hc with hc | hc
                · exact hT c hc
                · simp at hc; subst hc; exact ⟨hbn', hm⟩⟩
              clear hh hW hS hxe hL hF hK hn hIt hB n1 n2 hT hTk
              cases t
              · simp only [Bool.toNat_false, Nat.add_zero] at cf
                rw [show sideN false = 0 from rfl]
                go_wp2_with fail
                go_roundw
                · exact ⟨j + 1, L', by simp, by simp, by omega, hR.out⟩
                · simp [intOf]; omega
              · simp only [Bool.toNat_true] at cf
                rw [show sideN true = 1 from rfl]
                go_wp2_with fail
                go_roundw
                · exact ⟨j + 1, L', by simp, by simp, by omega, hR.out⟩
                · simp [intOf]; omega
            · have cf : wr.cell? ⟨w.heap.size, b * 2 + t.toNat, none⟩ = some (.bool false) := by
                have := hF.cell hbn'
                cases t
                · simpa [hm] using this.1
                · simpa [hm] using this.2
              have fz := hF.frozen (b * 2 + t.toNat)
              have FM := hF.mark hbn' t
              rw [markR_mem] at FM
              obtain ⟨WM, hWM⟩ : ∃ W, W = wr.setCell ⟨w.heap.size, b * 2 + t.toNat, none⟩ (.bool true) := ⟨_, rfl⟩
              have kM : Keeps (fun z => z = w.heap.size) wr WM := by rw [hWM]; exact (Keeps.refl (fun z => z = w.heap.size) wr).setCell (p := ⟨w.heap.size, b * 2 + t.toNat, none⟩) (.inr rfl) _
              have KM : Keeps (fun _ => False) w WM := by rw [hWM]; exact hK.setCell (.inl (Nat.le_refl _)) _
              rw [← hWM] at FM
              have LM := hL.keeps kM (fun z hz e => hn (by rw [hz, e]))
              have IM := hIt.keeps kM (fun z hz e => ob2 z hz e.symm)
              have BM : WM.heap[hb0]? = some (.cells #[.int .i64 a, .int .i64 (sideN s)] 108 (0, 0)) := (kM.block _ (lt_of_block hB) (fun e => ob0 e)).trans hB
              obtain ⟨v', W4, r1, L4, G4⟩ := LM.push b t (by omega)
              have e5 : WM.heap.size = wr.heap.size := by rw [hWM]; simp
              rw [e5] at r1
              have HA : Hid (_ = _) := r1
              have hW4 := hW.push hp hx (hFL' ▸ hbF) hbn' (by rw [← HOP.out]; exact hm)
              rw [← HOP.out] at hW4
              have n4 : ∀ z, z < WM.heap.size → u6.ownBlock ≠ some z → v'.ownBlock ≠ some z := fun z hz hu e => by
                rcases G4.own with ho | ho
                · exact hu (ho ▸ e)
                · have := ho z e; omega
              have F4 := FM.keeps G4.keeps hn
              have I4 := IM.keeps G4.keeps n2
              have B4 := (G4.keeps.block _ (lt_of_block BM) n1).trans BM
              have K4 : Keeps (fun _ => False) w W4 := ⟨G4.keeps.os.trans KM.os, G4.keeps.tape.trans KM.tape, G4.keeps.output.trans KM.output, Nat.le_trans KM.size G4.keeps.size, fun z hz hs => (G4.keeps.block z (Nat.lt_of_lt_of_le hz KM.size) fun e => by
                have := (own_block LM.own e).2; omega).trans (KM.block z hz hs)⟩
              have hR : Hid (Way p (L' ++ [(b, t)]) ∧ Shut p (L' ++ [(b, t)]) k ∧ (L' ++ [(b, t)])[k]? = some (a, s) ∧ Pts W4 w.heap.size v' (L' ++ [(b, t)]) ∧ Fnd W4 w.heap.size p.length (fun a s => decide ((a, s) ∈ L' ++ [(b, t)])) ∧ Keeps (fun _ => False) w W4 ∧ v'.ownBlock ≠ some w.heap.size ∧ Its W4 bs (.slice (some ⟨q, 0, none⟩) F.length fc) (F.map fun (n : Nat) => (n : Int)) ∧ W4.heap[hb0]? = some (.cells #[.int .i64 a, .int .i64 (sideN s)] 108 (0, 0)) ∧ v'.ownBlock ≠ some hb0 ∧ (∀ z, (Value.slice (some ⟨q, 0, none⟩) F.length fc).ownBlock = some z → v'.ownBlock ≠ some z) ∧ ∀ c ∈ F.take (j + 1), c < p.length ∧ (c, t) ∈ L' ++ [(b, t)]) :=
                ⟨hW4, hS.push (by omega) _, by rw [List.getElem?_append_left hkL]; exact hxe, L4, F4, K4, n4 _ FM.lt hn, I4, B4, n4 _ (lt_of_block BM) n1, fun z hz => n4 z (own_block IM.own hz).1 (n2 z hz), fun c hc => by
                  rw [hTk] at hc
                  rcases List.mem_append.1 hc with hc | hc
                  · exact ⟨(hT c hc).1, List.mem_append_left _ (hT c hc).2⟩
                  · simp at hc; subst hc; exact ⟨hbn', by simp⟩⟩
              clear hh hW hS hxe hL hF hK hn hIt hB n1 n2 hT hTk LM IM BM r1 L4 G4 hW4 n4 F4 I4 B4 K4 FM kM KM HOP
              cases t
              · simp only [Bool.toNat_false, Nat.add_zero] at cf fz hWM
                rw [show sideN false = 0 from rfl] at HA ⊢
                rw [hWM] at HA
                clear hWM e5
                go_wp2_with (at_builtin; refine wpList_append_run rfl _ _ 109 rfl rfl rfl HA.out ?_)
                go_roundw
                · exact ⟨j + 1, _, by simp, by simp, by omega, hR.out⟩
                · simp [intOf]; omega
              · simp only [Bool.toNat_true] at cf fz hWM
                rw [show sideN true = 1 from rfl] at HA ⊢
                rw [hWM] at HA
                clear hWM e5
                go_wp2_with (at_builtin; refine wpList_append_run rfl _ _ 109 rfl rfl rfl HA.out ?_)
                go_roundw
                · exact ⟨j + 1, _, by simp, by simp, by omega, hR.out⟩
                · simp [intOf]; omega
        · have hji : ¬ (j : Int) < F.length := by omega
          obtain rfl : j = F.length := by omega
          rw [List.take_length] at hT
          have hS' := hS.more hxe (fun b hb => by rw [hFL'] at hb; rw [← HOP.out]; exact hT b hb)
          clear hh
          go_wp2_with fail
          go_roundw
          · exact ⟨k + 1, L', by simp, by simp, by omega, ⟨hW, hS', hL, hF, hK, hn⟩⟩
          · simp [intOf]; omega
    · have hki : ¬ (k : Int) < L.length := by omega
      obtain rfl : k = L.length := by omega
      obtain ⟨hR, hbh⟩ := Shut.all hW hS
      clear hh
      go_wp2_with fail
      go_ret2
      exact ⟨_, _, rfl, Nat.le_refl _, hK, .inl ⟨rfl, by rw [hR]; exact hF, hbh⟩⟩
end Go.Proofs.YtljapgoeomedkaaDoor
