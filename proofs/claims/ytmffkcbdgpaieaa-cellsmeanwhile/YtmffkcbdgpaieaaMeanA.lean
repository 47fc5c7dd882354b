/-
  The walk of the law CellsMeanwhile, up to its loop. No statement of the seat is proved here.
-/
import Derived.Test.YtmffkcbdgpaieaaGoes
import Derived.Test.YtmffkcbdgpaieaaRoundB
import Derived.Deep.RegionHeld3
namespace Go.Proofs.Ytmffkcbdgpaieaa
open Go.RowKit Go.Shelf
attribute [local go_sem] Oper.semAt_some

theorem Pairs.below {w w' : World} {sp : Option Addr} {cs : List (Int × Int)} (h : Pairs w sp cs) (hb : Below w.heap.size w w') : Pairs w' sp cs := h.kept (Keeps.of_below hb (fun _ => False)) (fun _ _ _ _ f => f)
theorem Reads.below {w w' : World} {sp : Option Addr} {ws : List Int} (h : Reads w sp ws) (hb : Below w.heap.size w w') : Reads w' sp ws := h.kept (Keeps.of_below hb (fun _ => False))

/-- Blocks that lie there. -/
def Holds (W : World) (L : List (Nat × Obj)) : Prop := ∀ x ∈ L, W.heap[x.1]? = some x.2
theorem Holds.kept {S : Nat → Prop} {W W' : World} {L : List (Nat × Obj)} (h : Holds W L) (k : Keeps S W W') (hS : ∀ x ∈ L, ¬ S x.1) : Holds W' L := fun x hx => (k.block _ (lt_of_block (h x hx)) (hS x hx)).trans (h x hx)
theorem Holds.none (W : World) : Holds W [] := fun _ hx => by cases hx
theorem Holds.new {W W' : World} {L : List (Nat × Obj)} (h : Holds W L) (k : Keeps (fun _ => False) W W') : Holds W' L := h.kept k (fun _ _ f => f)
theorem Holds.push {W : World} {L : List (Nat × Obj)} (h : Holds W L) (o : Obj) : Holds (W.alloc o) ((W.heap.size, o) :: L) := fun x hx => by
  rcases List.mem_cons.1 hx with rfl | hx
  · exact alloc_block W o
  · exact alloc_old (h x hx) o
theorem keepsB {w W W' : World} (hb : Below w.heap.size w W) (k : Keeps (fun _ => False) W W') : Below w.heap.size w W' := hb.trans (k.below _ hb.size (fun _ f => f.elim))

/-- The variables of CellsMeanwhile in their boxes, and the rows: the program's and the document's have the same words and as many accesses; the copy is as it was. -/
structure Mw (st nr bt br bw bn : Nat) (stv : Value) (rt ct rr cr cap wt wc wcap l : Nat) (rest wrest : List Value) (ws : List Int) (m : Int) (W : World) : Prop where
  st : W.heap[st]? = some (.cells #[stv] 49 (0, 0))
  res : W.heap[nr]? = some (.cells #[.bool false] 4 (0, 0))
  t : W.heap[bt]? = some (.cells #[.pointer (some ⟨rt, 0, none⟩)] 25 (0, 0))
  r : W.heap[br]? = some (.cells #[.pointer (some ⟨rr, 0, none⟩)] 30 (0, 0))
  was : W.heap[bw]? = some (.cells #[.pointer (some ⟨wt, 0, none⟩)] 30 (0, 0))
  n : W.heap[bn]? = some (.cells #[.int .i64 m] 3 (0, 0))
  copy : RefAt W wt wc wcap wrest ws 0
  rows : ∃ ws' k, ws'.length = l ∧ RowAt W 74 36 rt ct ws' k ∧ RefAt W rr cr cap rest ws' k
theorem Mw.own {st nr bt br bw bn : Nat} {stv : Value} {rt ct rr cr cap wt wc wcap l : Nat} {rest wrest : List Value} {ws : List Int} {m : Int} {A B : World} {row : Option Nat} (h : Mw st nr bt br bw bn stv rt ct rr cr cap wt wc wcap l rest wrest ws m A) (hg : A.grownBy B row) (hr : ∀ r, row = some r → ∃ o : Obj, A.heap[r]? = some o ∧ o.isCells = false) : Mw st nr bt br bw bn stv rt ct rr cr cap wt wc wcap l rest wrest ws m B := by
  obtain ⟨ws', k, h1, h2, h3⟩ := h.rows
  exact ⟨block_kept h.st hg hr, block_kept h.res hg hr, block_kept h.t hg hr, block_kept h.r hg hr, block_kept h.was hg hr, block_kept h.n hg hr,
    ⟨block_kept h.copy.row hg hr, block_kept h.copy.words hg hr, h.copy.ne, h.copy.pos, h.copy.le, h.copy.cap⟩,
    ws', k, h1, ⟨block_kept h2.row hg hr, block_kept h2.words hg hr, h2.ne, h2.pos, h2.le⟩, ⟨block_kept h3.row hg hr, block_kept h3.words hg hr, h3.ne, h3.pos, h3.le, h3.cap⟩⟩
theorem Mw.drewN {st nr bt br bw bn : Nat} {stv : Value} {rt ct rr cr cap wt wc wcap l : Nat} {rest wrest : List Value} {ws : List Int} {m : Int} {A : World} (h : Mw st nr bt br bw bn stv rt ct rr cr cap wt wc wcap l rest wrest ws m A) (j : Nat) : Mw st nr bt br bw bn stv rt ct rr cr cap wt wc wcap l rest wrest ws m (A.drewN j) := by
  obtain ⟨ws', k, h1, h2, h3⟩ := h.rows
  exact ⟨h.st, h.res, h.t, h.r, h.was, h.n, h.copy.drewN j, ws', k, h1, h2.drewN j, h3.drewN j⟩

theorem KeepsFrom.keeps {B : Nat} {T : Nat → Prop} {W W' : World} (k : Keeps T W W') (h : ∀ i, T i → i < B) : KeepsFrom B W W' :=
  ⟨k.size, fun i o hB hi _ => (k.block i (lt_of_block hi) (fun ht => by have := h i ht; omega)).trans hi⟩
/-- The blocks that a round of CellsMeanwhile may turn. -/
def five (bt ct br cr bn : Nat) : Nat → Prop := fun k => k = bt ∨ k = ct ∨ k = br ∨ k = cr ∨ k = bn
theorem mw_next {st nr bt br bw bn : Nat} {stv : Value} {rt ct rr cr cap wt wc wcap l : Nat} {rest wrest : List Value} {ws : List Int} {m : Int} {W X : World} (h : Mw st nr bt br bw bn stv rt ct rr cr cap wt wc wcap l rest wrest ws m W) (k : Keeps (five rt ct rr cr bn) W X)
    (d : ∀ i, i = st ∨ i = nr ∨ i = bt ∨ i = br ∨ i = bw ∨ i = wt ∨ i = wc → ¬ five rt ct rr cr bn i) (hbn : ¬ (bn = rt ∨ bn = ct ∨ bn = rr ∨ bn = cr)) (m' : Int) {c : Array Value} (hc : X.heap[bn]? = some (.cells c 3 (0, 0))) (hc1 : c.setIfInBounds 0 (.int .i64 m') = #[.int .i64 m'])
    {ws' : List Int} {n : Int} (h1 : ws'.length = l) (h2 : RowAt X 74 36 rt ct ws' n) (h3 : RefAt X rr cr cap rest ws' n) :
    Mw st nr bt br bw bn stv rt ct rr cr cap wt wc wcap l rest wrest ws m' (X.setCell ⟨bn, 0, none⟩ (.int .i64 m')) ∧ Keeps (five rt ct rr cr bn) W (X.setCell ⟨bn, 0, none⟩ (.int .i64 m')) := by
  have k1 : Keeps (fun i => i = bn) X (X.setCell ⟨bn, 0, none⟩ (.int .i64 m')) := (Keeps.refl (fun i => i = bn) X).setCell (p := ⟨bn, 0, none⟩) (.inr rfl) _
  have k2 : Keeps (five rt ct rr cr bn) W (X.setCell ⟨bn, 0, none⟩ (.int .i64 m')) := k.trans (k1.mono (fun i _ e => .inr (.inr (.inr (.inr e)))))
  have b : ∀ {i : Nat} {o : Obj}, (i = st ∨ i = nr ∨ i = bt ∨ i = br ∨ i = bw ∨ i = wt ∨ i = wc) → W.heap[i]? = some o → (X.setCell ⟨bn, 0, none⟩ (.int .i64 m')).heap[i]? = some o := fun hi ho => (k2.block _ (lt_of_block ho) (d _ hi)).trans ho
  exact ⟨⟨b (by simp) h.st, b (by simp) h.res, b (by simp) h.t, b (by simp) h.r, b (by simp) h.was, by rw [block_set hc 0 (.int .i64 m'), hc1],
    ⟨b (by simp) h.copy.row, b (by simp) h.copy.words, h.copy.ne, h.copy.pos, h.copy.le, h.copy.cap⟩,
    ws', n, h1, h2.kept k1 (by omega) (by omega), h3.kept k1 (by omega) (by omega)⟩, k2⟩

set_option maxRecDepth 100000 in
set_option maxHeartbeats 2000000 in
theorem meanwhile_yes (sp sp1 : Option Addr) (l c l1 c1 : Nat) (ws : List Int) (cs : List (Int × Int)) (w : World) (hn : ws.length = l) (hr : Reads w sp ws) (h0 : sp = none → c = 0) (hl : 1 ≤ l) (hl' : l ≤ 65536)
    (hn1 : cs.length = l1) (hp1 : Pairs w sp1 cs) (hb1 : l1 * 16 ≤ 140737488351232)
    (hw1 : ∀ x ∈ cs, (0 ≤ x.1 ∧ x.1 ≤ 18446744073709551615) ∧ 0 ≤ x.2 ∧ x.2 ≤ 18446744073709551615) :
    Calls Try.prog 4 #[.slice sp l c, .slice sp1 l1 c1] w fun e w' => e = .returned (.bool true) ∧ Below w.heap.size w w' := by
  have hnf := func_not_nil
  have H0 : Hid (sp = none → c = 0) := h0
  have HN : Hid (ws.length = l) := hn
  have HN1 : Hid (cs.length = l1) := hn1
  have HW1 : Hid (∀ x ∈ cs, (0 ≤ x.1 ∧ x.1 ≤ 18446744073709551615) ∧ 0 ≤ x.2 ∧ x.2 ≤ 18446744073709551615) := hw1
  have hq1 : (l1 : Int) ≤ 8796093021952 := by omega
  clear h0 hn hn1 hw1 hb1
  have k0 : Below w.heap.size w ((w.alloc (.cells #[.slice sp1 l1 c1] 49)).alloc (.cells #[.bool false] 4)) := ((Below.refl _ w).alloc (Nat.le_refl _) _).alloc (by simp) _
  have a0 : Holds ((w.alloc (.cells #[.slice sp1 l1 c1] 49)).alloc (.cells #[.bool false] 4)) [(w.heap.size + 1, .cells #[.bool false] 4 (0, 0)), (w.heap.size, .cells #[.slice sp1 l1 c1] 49 (0, 0))] := by
    have h := ((Holds.none w).push (.cells #[.slice sp1 l1 c1] 49)).push (.cells #[.bool false] 4)
    rw [World.size_alloc] at h
    exact h
  refine (callsIn_wide (n := 3)).1 ?_
  refine callsIn_of_wp_marks Try.func4 rfl trivial ?_ rfl
  simp only [Try.ntmps4, List.size_toArray, List.length_cons, List.length_nil, Nat.reduceAdd, Nat.reduceSub, Array.replicate_succ, Array.replicate_zero, List.push_toArray, List.append_toArray, List.nil_append, List.cons_append]
  gi_wp2_with fail
  refine ⟨trivial, (callsIn_wide.2 (lent_any sp l c ws _ HN.out (hr.below k0) H0.out (by omega))).mono ?_⟩
  have hz0 : ((w.alloc (.cells #[.slice sp1 l1 c1] 49)).alloc (.cells #[.bool false] 4)).heap.size = w.heap.size + 2 := by simp
  generalize (w.alloc (.cells #[.slice sp1 l1 c1] 49)).alloc (.cells #[.bool false] 4) = W0 at k0 a0 hz0 ⊢
  rintro e w1 ⟨g, gcap, rfl, hg, hL, k1⟩
  replace a0 := a0.new k1
  have hz1 := k1.size
  replace k0 := keepsB k0 k1
  clear k1
  gi_wp2_with fail
  refine ⟨trivial, (callsIn_wide.2 (of_row _ l _ ws _ HN.out hL.reads hl hl')).mono ?_⟩
  rintro e w2 ⟨bt, ct, rfl, hbt, hct, rt, k2⟩
  replace a0 := (a0.new k2).push (.cells #[.pointer (some ⟨bt, 0, none⟩)] 25)
  have hz2 := k2.size
  replace k0 := (keepsB k0 k2).alloc (by omega) (.cells #[.pointer (some ⟨bt, 0, none⟩)] 25)
  have hx1 := rt.ltb
  have hx2 := rt.ltc
  replace rt := rt.alloc (.cells #[.pointer (some ⟨bt, 0, none⟩)] 25)
  clear k2 hL
  gi_wp2_with fail
  refine ⟨trivial, (callsIn_wide.2 (rof_yes sp l c ws _ HN.out (hr.below k0) hl hl')).mono ?_⟩
  have hs3 : (w2.alloc (.cells #[.pointer (some ⟨bt, 0, none⟩)] 25)).heap.size = w2.heap.size + 1 := by simp
  generalize w2.alloc (.cells #[.pointer (some ⟨bt, 0, none⟩)] 25) = W3 at k0 a0 rt hs3 ⊢
  rintro e w3 ⟨br, cr, rcap, rest, rfl, hbr, hcr, rr, k3⟩
  replace a0 := (a0.new k3).push (.cells #[.pointer (some ⟨br, 0, none⟩)] 30)
  replace rt := (rt.kept k3 (fun f => f) (fun f => f)).alloc (.cells #[.pointer (some ⟨br, 0, none⟩)] 30)
  have hx3 := rr.ltb
  have hx4 := rr.ltc
  replace rr := rr.kept ((Keeps.refl (fun _ => False) w3).alloc (.cells #[.pointer (some ⟨br, 0, none⟩)] 30)) (fun f => f) (fun f => f)
  have hz3 := k3.size
  replace k0 := (keepsB k0 k3).alloc (by omega) (.cells #[.pointer (some ⟨br, 0, none⟩)] 30)
  clear k3
  have c1 : (w3.alloc (.cells #[.pointer (some ⟨br, 0, none⟩)] 30)).cell? ⟨w2.heap.size, 0, none⟩ = some (.pointer (some ⟨bt, 0, none⟩)) := cell_of_block (a0 (w2.heap.size, .cells #[.pointer (some ⟨bt, 0, none⟩)] 25 (0, 0)) (by simp)) 0
  have c2 : (w3.alloc (.cells #[.pointer (some ⟨br, 0, none⟩)] 30)).cell? ⟨w3.heap.size, 0, none⟩ = some (.pointer (some ⟨br, 0, none⟩)) := cell_of_block (a0 (w3.heap.size, .cells #[.pointer (some ⟨br, 0, none⟩)] 30 (0, 0)) (by simp)) 0
  gi_wp2_with (first
    | (refine ⟨trivial, ?_⟩; gi_at_call 13; refine (callsIn_wide.2 (num_any _ _)).mono ?_; rintro e w' ⟨rfl, rfl⟩)
    | (refine ⟨trivial, ?_⟩; gi_at_call 22; refine (callsIn_wide.2 (all_any _ _)).mono ?_; rintro e w' ⟨rfl, rfl⟩))
  replace a0 := a0.push (.cells #[.pointer (some ⟨bt, 0, none⟩)] 25)
  rw [World.size_alloc] at a0
  have kx := (Keeps.refl (fun _ => False) (w3.alloc (.cells #[.pointer (some ⟨br, 0, none⟩)] 30))).alloc (.cells #[.pointer (some ⟨bt, 0, none⟩)] 25)
  replace rt := rt.kept kx (fun f => f) (fun f => f)
  replace rr := rr.kept kx (fun f => f) (fun f => f)
  replace k0 := keepsB k0 kx
  have hs4 : ((w3.alloc (.cells #[.pointer (some ⟨br, 0, none⟩)] 30)).alloc (.cells #[.pointer (some ⟨bt, 0, none⟩)] 25)).heap.size = w3.heap.size + 2 := by simp
  clear c1 c2 kx
  refine ⟨trivial, (callsIn_wide.2 (rcopy_at br cr rcap rest ws 0 _ rr)).mono ?_⟩
  generalize (w3.alloc (.cells #[.pointer (some ⟨br, 0, none⟩)] 30)).alloc (.cells #[.pointer (some ⟨bt, 0, none⟩)] 25) = W4 at k0 a0 rt rr hs4 ⊢
  rintro e w4 ⟨bw, cw, wcap, wrest, rfl, hbw, hcw, rw_, k4⟩
  replace a0 := ((a0.new k4).push (.cells #[.pointer (some ⟨bw, 0, none⟩)] 30)).push (.cells #[.int .i64 0] 3)
  rw [World.size_alloc] at a0
  have hz4 := k4.size
  have kx := ((Keeps.refl (fun _ => False) w4).alloc (.cells #[.pointer (some ⟨bw, 0, none⟩)] 30)).alloc (.cells #[.int .i64 0] 3)
  replace rt := (rt.kept k4 (fun f => f) (fun f => f)).kept kx (fun f => f) (fun f => f)
  replace rr := (rr.kept k4 (fun f => f) (fun f => f)).kept kx (fun f => f) (fun f => f)
  have hx5 := rw_.ltb
  have hx6 := rw_.ltc
  replace rw_ := rw_.kept kx (fun f => f) (fun f => f)
  replace k0 := keepsB (keepsB k0 k4) kx
  have hs5 : ((w4.alloc (.cells #[.pointer (some ⟨bw, 0, none⟩)] 30)).alloc (.cells #[.int .i64 0] 3)).heap.size = w4.heap.size + 2 := by simp
  clear k4 kx
  gi_wp2
  generalize (w4.alloc (.cells #[.pointer (some ⟨bw, 0, none⟩)] 30)).alloc (.cells #[.int .i64 0] 3) = W5 at k0 a0 rt rr rw_ hs5 ⊢
  have hM0 : Mw w.heap.size (w.heap.size + 1) w2.heap.size w3.heap.size w4.heap.size (w4.heap.size + 1) (.slice sp1 l1 c1) bt ct br cr rcap bw cw wcap l rest wrest ws 0 W5 :=
    ⟨a0 (_, _) (by simp), a0 (_, _) (by simp), a0 (_, _) (by simp), a0 (_, _) (by simp), a0 (_, _) (by simp), a0 (_, _) (by simp), rw_, ws, 0, HN.out, rt, rr⟩
  have cA : W5.cell? ⟨w3.heap.size + 1, 0, none⟩ = some (.pointer (some ⟨bt, 0, none⟩)) := cell_of_block (a0 (w3.heap.size + 1, .cells #[.pointer (some ⟨bt, 0, none⟩)] 25 (0, 0)) (by simp)) 0
  clear a0
  refine' wpIn_rangeFunc_ownG rfl (by omega) (gf := 52) (lb := #[.pointer (some ⟨w3.heap.size + 1, 0, none⟩)]) rfl trivial (enters_of Try.func52 (by kernel_rfl) rfl)
    (all_stops (3 - 1) (by omega) (w3.heap.size + 1) W5.heap.size (some ⟨bt, 0, none⟩) ws W5 (Nat.le_refl _) cA (.inr ⟨bt, ct, 0, rfl, rt⟩))
    (fun h k => h.trans k) (fun W l o o' _ hl ho _ => Above.putObj W l o o' hl ho) (Below.refl _ _) (fun _ => rfl)
    (fun pre W => (Mw w.heap.size (w.heap.size + 1) w2.heap.size w3.heap.size w4.heap.size (w4.heap.size + 1) (.slice sp1 l1 c1) bt ct br cr rcap bw cw wcap l rest wrest ws pre.length W ∧ pre = rounds ws pre.length) ∧ Below w.heap.size w W)
    (fun _ pre W => (∀ j, pre ≠ rounds ws j) ∧ Below w.heap.size w W)
    (OwnFrom.and (Own.from (fun _ _ _ _ hs hg hr => ⟨hs.1.own hg hr, hs.2⟩) _) (ownFrom_below (Nat.le_refl _) (by omega)))
    (fun _ => OwnFrom.and (Own.from (fun _ _ _ _ hs _ _ => hs) _) (ownFrom_below (Nat.le_refl _) (by omega)))
    ⟨⟨hM0, rfl⟩, k0⟩ _ ?assign ?body ?done ?stop
  case assign =>
    intro l' x W K hK
    gi_wp2
    exact hK
  case stop =>
    rintro D c pre W hD ⟨j, hj, hpj⟩ ⟨h, hB⟩ hK
    exact (h (j + 1) hpj).elim
  case body =>
    rintro l' pre ⟨i, v⟩ W ⟨⟨hS, hpre⟩, hB⟩ hlen
    dsimp only
    obtain ⟨m, hm⟩ : ∃ m, pre.length = m := ⟨_, rfl⟩
    rw [hm] at hS hlen
    have x0 : W.cell? ⟨_, 0, none⟩ = some _ := cell_of_block hS.was 0
    have x2 : W.cell? ⟨_, 0, none⟩ = some _ := cell_of_block hS.res 0
    have x5 : W.cell? ⟨_, 0, none⟩ = some _ := cell_of_block hS.n 0
    have y2 := frozen_of_block hS.res 0
    have z0 := hS.copy.cell0
    have z1 := hS.copy.wcell m hlen
    have hla : (m : Int) < (ws.length : Int) := by omega
    have hga : decide (ws.length ≤ m) = false := by simp; omega
    have hle := hS.copy.le
    have HP : Hid (pre = rounds ws pre.length) := hpre
    have HM : Hid (pre.length = m) := hm
    clear hpre hm
    by_cases hi : i = m
    · subst hi
      by_cases hv : v = ws[i]?.getD 0
      · have hv' : ws[i]?.getD 0 = v := hv.symm
        rw [hv'] at z1
        have HV : Hid (ws[i]?.getD 0 = v) := hv'
        clear hv hv'
        gi_wp2
        refine wpIn_round_quiet (by kernel_rfl) (by kernel_rfl) (by kernel_rfl) ?_
        repeat (go_big_quiet_step ((go_at_call 23; exact Calls.quiet_of_same (rlen_at bw _ _ _ _ z0))))
        refine wpQuiet_nil ?_
        rintro _ ⟨nq, rfl⟩
        have hS6 := hS.drewN nq
        have hB6 : Below w.heap.size w (W.drewN nq) := ⟨hB.os, hB.tape, hB.output, hB.size, hB.block⟩
        have hKf : Keeps (fun _ => False) W (W.drewN nq) := (Keeps.refl _ W).drewN nq
        have hsz6 : (W.drewN nq).heap.size = W.heap.size := rfl
        clear x0 x2 x5 y2 z0 z1
        generalize W.drewN nq = W6 at hS6 hB6 hKf hsz6 ⊢
        have x3 : W6.cell? ⟨_, 0, none⟩ = some _ := cell_of_block hS6.st 0
        have x5 : W6.cell? ⟨_, 0, none⟩ = some _ := cell_of_block hS6.n 0
        by_cases hlt : i < l1
        · have hkc : i < cs.length := by rw [HN1.out]; exact hlt
          have hpk := hp1.below hB6
          obtain ⟨sb, so, hspe, hc1, hc2⟩ := hpk i hkc
          have hsb : sb < w.heap.size := hp1.lt (by omega) sb so none hspe
          have hmem : (cs[i]?.getD (0, 0)) ∈ cs := by rw [List.getElem?_eq_getElem hkc]; exact List.getElem_mem hkc
          obtain ⟨⟨ha0, _⟩, _, _⟩ := HW1.out _ hmem
          subst hspe
          generalize (cs[i]?.getD (0, 0)).1 = A at hc1 ha0
          generalize (cs[i]?.getD (0, 0)).2 = V at hc2
          obtain ⟨ws', nn, hw', hrow, href⟩ := hS6.rows
          have HW' : Hid (ws'.length = l) := hw'
          have x6 : W6.cell? ⟨_, 0, none⟩ = some _ := cell_of_block hS6.t 0
          have x7 : W6.cell? ⟨_, 0, none⟩ = some _ := cell_of_block hS6.r 0
          have hltI : (i : Int) < (l1 : Int) := by omega
          clear hmem hpk hw'
          gi_wp2
          have hSS : W6.drew.cell? ⟨w2.heap.size, 0, none⟩ = some (.pointer (some ⟨bt, 0, none⟩)) ∧ W6.drew.cell? ⟨w.heap.size, 0, none⟩ = some (.slice (some ⟨sb, so, none⟩) l1 c1) ∧ W6.drew.cell? ⟨w4.heap.size + 1, 0, none⟩ = some (.int .i64 i) ∧ W6.drew.cell? ⟨w3.heap.size, 0, none⟩ = some (.pointer (some ⟨br, 0, none⟩)) ∧ W6.drew.cell? ⟨sb, so + i * 2, none⟩ = some (.int .u64 A) ∧ W6.drew.cell? ⟨sb, so + i * 2 + 1, none⟩ = some (.int .u64 V) := ⟨x6, x3, x5, x7, hc1, hc2⟩
          refine wpIn_round_held (S := fun w' => w'.cell? ⟨w2.heap.size, 0, none⟩ = some (.pointer (some ⟨bt, 0, none⟩)) ∧ w'.cell? ⟨w.heap.size, 0, none⟩ = some (.slice (some ⟨sb, so, none⟩) l1 c1) ∧ w'.cell? ⟨w4.heap.size + 1, 0, none⟩ = some (.int .i64 i) ∧ w'.cell? ⟨w3.heap.size, 0, none⟩ = some (.pointer (some ⟨br, 0, none⟩)) ∧ w'.cell? ⟨sb, so + i * 2, none⟩ = some (.int .u64 A) ∧ w'.cell? ⟨sb, so + i * 2 + 1, none⟩ = some (.int .u64 V)) 26 rfl (by kernel_rfl) (by kernel_rfl) ?_
          refine held_take (i := 0) (v := .pointer (some ⟨bt, 0, none⟩)) 73 rfl rfl (by kernel_rfl) (by kernel_rfl) (by kernel_rfl) rfl (fun w' hw' => ?_) hSS ?_
          · obtain ⟨s1, s2, s3, s4, s5, s6⟩ := hw'
            go_simp
          simp only [Act.put, List.setIfInBounds_toArray, List.set_cons_zero, List.set_cons_succ]
          refine held_take (i := 1) (v := .slice (some ⟨sb, so, none⟩) l1 c1) 74 rfl rfl (by kernel_rfl) (by kernel_rfl) (by kernel_rfl) rfl (fun w' hw' => ?_) hSS ?_
          · obtain ⟨s1, s2, s3, s4, s5, s6⟩ := hw'
            go_simp
          simp only [Act.put, List.setIfInBounds_toArray, List.set_cons_zero, List.set_cons_succ]
          refine held_take (i := 2) (v := .int .i64 i) 75 rfl rfl (by kernel_rfl) (by kernel_rfl) (by kernel_rfl) rfl (fun w' hw' => ?_) hSS ?_
          · obtain ⟨s1, s2, s3, s4, s5, s6⟩ := hw'
            go_simp
          simp only [Act.put, List.setIfInBounds_toArray, List.set_cons_zero, List.set_cons_succ]
          refine held_take (i := 3) (v := .pointer (some ⟨sb, so + i * 2, none⟩)) 76 rfl rfl (by kernel_rfl) (by kernel_rfl) (by kernel_rfl) rfl (fun w' hw' => ?_) hSS ?_
          · obtain ⟨s1, s2, s3, s4, s5, s6⟩ := hw'
            go_simp
          simp only [Act.put, List.setIfInBounds_toArray, List.set_cons_zero, List.set_cons_succ]
          refine held_take (i := 4) (v := .pointer (some ⟨sb, so + i * 2, none⟩)) 77 rfl rfl (by kernel_rfl) (by kernel_rfl) (by kernel_rfl) rfl (fun w' hw' => ?_) hSS ?_
          · obtain ⟨s1, s2, s3, s4, s5, s6⟩ := hw'
            go_simp
          simp only [Act.put, List.setIfInBounds_toArray, List.set_cons_zero, List.set_cons_succ]
          refine held_take (i := 5) (v := .int .u64 A) 78 rfl rfl (by kernel_rfl) (by kernel_rfl) (by kernel_rfl) rfl (fun w' hw' => ?_) hSS ?_
          · obtain ⟨s1, s2, s3, s4, s5, s6⟩ := hw'
            go_simp
          simp only [Act.put, List.setIfInBounds_toArray, List.set_cons_zero, List.set_cons_succ]
          refine held_take (i := 6) (v := .slice (some ⟨sb, so, none⟩) l1 c1) 79 rfl rfl (by kernel_rfl) (by kernel_rfl) (by kernel_rfl) rfl (fun w' hw' => ?_) hSS ?_
          · obtain ⟨s1, s2, s3, s4, s5, s6⟩ := hw'
            go_simp
          simp only [Act.put, List.setIfInBounds_toArray, List.set_cons_zero, List.set_cons_succ]
          refine held_take (i := 7) (v := .int .i64 i) 80 rfl rfl (by kernel_rfl) (by kernel_rfl) (by kernel_rfl) rfl (fun w' hw' => ?_) hSS ?_
          · obtain ⟨s1, s2, s3, s4, s5, s6⟩ := hw'
            go_simp
          simp only [Act.put, List.setIfInBounds_toArray, List.set_cons_zero, List.set_cons_succ]
          refine held_take (i := 8) (v := .pointer (some ⟨sb, so + i * 2, none⟩)) 81 rfl rfl (by kernel_rfl) (by kernel_rfl) (by kernel_rfl) rfl (fun w' hw' => ?_) hSS ?_
          · obtain ⟨s1, s2, s3, s4, s5, s6⟩ := hw'
            go_simp
          simp only [Act.put, List.setIfInBounds_toArray, List.set_cons_zero, List.set_cons_succ]
          refine held_take (i := 9) (v := .pointer (some ⟨sb, so + i * 2 + 1, none⟩)) 82 rfl rfl (by kernel_rfl) (by kernel_rfl) (by kernel_rfl) rfl (fun w' hw' => ?_) hSS ?_
          · obtain ⟨s1, s2, s3, s4, s5, s6⟩ := hw'
            go_simp
          simp only [Act.put, List.setIfInBounds_toArray, List.set_cons_zero, List.set_cons_succ]
          refine held_take (i := 10) (v := .int .u64 V) 83 rfl rfl (by kernel_rfl) (by kernel_rfl) (by kernel_rfl) rfl (fun w' hw' => ?_) hSS ?_
          · obtain ⟨s1, s2, s3, s4, s5, s6⟩ := hw'
            go_simp
          simp only [Act.put, List.setIfInBounds_toArray, List.set_cons_zero, List.set_cons_succ]
          refine held_take (i := 13) (v := .pointer (some ⟨br, 0, none⟩)) 86 rfl rfl (by kernel_rfl) (by kernel_rfl) (by kernel_rfl) rfl (fun w' hw' => ?_) hSS ?_
          · obtain ⟨s1, s2, s3, s4, s5, s6⟩ := hw'
            go_simp
          simp only [Act.put, List.setIfInBounds_toArray, List.set_cons_zero, List.set_cons_succ]
          refine held_take (i := 14) (v := .slice (some ⟨sb, so, none⟩) l1 c1) 87 rfl rfl (by kernel_rfl) (by kernel_rfl) (by kernel_rfl) rfl (fun w' hw' => ?_) hSS ?_
          · obtain ⟨s1, s2, s3, s4, s5, s6⟩ := hw'
            go_simp
          simp only [Act.put, List.setIfInBounds_toArray, List.set_cons_zero, List.set_cons_succ]
          refine held_take (i := 15) (v := .int .i64 i) 88 rfl rfl (by kernel_rfl) (by kernel_rfl) (by kernel_rfl) rfl (fun w' hw' => ?_) hSS ?_
          · obtain ⟨s1, s2, s3, s4, s5, s6⟩ := hw'
            go_simp
          simp only [Act.put, List.setIfInBounds_toArray, List.set_cons_zero, List.set_cons_succ]
          refine held_take (i := 16) (v := .pointer (some ⟨sb, so + i * 2, none⟩)) 89 rfl rfl (by kernel_rfl) (by kernel_rfl) (by kernel_rfl) rfl (fun w' hw' => ?_) hSS ?_
          · obtain ⟨s1, s2, s3, s4, s5, s6⟩ := hw'
            go_simp
          simp only [Act.put, List.setIfInBounds_toArray, List.set_cons_zero, List.set_cons_succ]
          refine held_take (i := 17) (v := .pointer (some ⟨sb, so + i * 2, none⟩)) 90 rfl rfl (by kernel_rfl) (by kernel_rfl) (by kernel_rfl) rfl (fun w' hw' => ?_) hSS ?_
          · obtain ⟨s1, s2, s3, s4, s5, s6⟩ := hw'
            go_simp
          simp only [Act.put, List.setIfInBounds_toArray, List.set_cons_zero, List.set_cons_succ]
          refine held_take (i := 18) (v := .int .u64 A) 91 rfl rfl (by kernel_rfl) (by kernel_rfl) (by kernel_rfl) rfl (fun w' hw' => ?_) hSS ?_
          · obtain ⟨s1, s2, s3, s4, s5, s6⟩ := hw'
            go_simp
          simp only [Act.put, List.setIfInBounds_toArray, List.set_cons_zero, List.set_cons_succ]
          refine held_take (i := 19) (v := .slice (some ⟨sb, so, none⟩) l1 c1) 92 rfl rfl (by kernel_rfl) (by kernel_rfl) (by kernel_rfl) rfl (fun w' hw' => ?_) hSS ?_
          · obtain ⟨s1, s2, s3, s4, s5, s6⟩ := hw'
            go_simp
          simp only [Act.put, List.setIfInBounds_toArray, List.set_cons_zero, List.set_cons_succ]
          refine held_take (i := 20) (v := .int .i64 i) 93 rfl rfl (by kernel_rfl) (by kernel_rfl) (by kernel_rfl) rfl (fun w' hw' => ?_) hSS ?_
          · obtain ⟨s1, s2, s3, s4, s5, s6⟩ := hw'
            go_simp
          simp only [Act.put, List.setIfInBounds_toArray, List.set_cons_zero, List.set_cons_succ]
          refine held_take (i := 21) (v := .pointer (some ⟨sb, so + i * 2, none⟩)) 94 rfl rfl (by kernel_rfl) (by kernel_rfl) (by kernel_rfl) rfl (fun w' hw' => ?_) hSS ?_
          · obtain ⟨s1, s2, s3, s4, s5, s6⟩ := hw'
            go_simp
          simp only [Act.put, List.setIfInBounds_toArray, List.set_cons_zero, List.set_cons_succ]
          refine held_take (i := 22) (v := .pointer (some ⟨sb, so + i * 2 + 1, none⟩)) 95 rfl rfl (by kernel_rfl) (by kernel_rfl) (by kernel_rfl) rfl (fun w' hw' => ?_) hSS ?_
          · obtain ⟨s1, s2, s3, s4, s5, s6⟩ := hw'
            go_simp
          simp only [Act.put, List.setIfInBounds_toArray, List.set_cons_zero, List.set_cons_succ]
          refine held_take (i := 23) (v := .int .u64 V) 96 rfl rfl (by kernel_rfl) (by kernel_rfl) (by kernel_rfl) rfl (fun w' hw' => ?_) hSS ?_
          · obtain ⟨s1, s2, s3, s4, s5, s6⟩ := hw'
            go_simp
          simp only [Act.put, List.setIfInBounds_toArray, List.set_cons_zero, List.set_cons_succ]
          refine held_call (i := 11) (f := 24) (args := #[.pointer (some ⟨bt, 0, none⟩), .int .u64 A, .int .u64 V]) 84 (by kernel_rfl) rfl rfl rfl (by go_simp) ?_
          refine (store_at bt ct ws' nn A V _ hrow.drew ha0).mono ?_
          rintro e w8 ⟨rfl, r8, k8⟩
          replace k8 := k8.from_drew
          refine ⟨_, rfl, ⟨k8.cell (by omega) x6, k8.cell (by omega) x3, k8.cell (by omega) x5, k8.cell (by omega) x7, k8.cell (by omega) hc1, k8.cell (by omega) hc2⟩, ?_⟩
          simp only [Act.put, List.setIfInBounds_toArray, List.set_cons_zero, List.set_cons_succ]
          refine held_call (i := 12) (f := 13) (args := #[.int .i64 (errAt ws'.length A)]) 85 (by kernel_rfl) rfl rfl rfl (by go_simp) ?_
          refine (num_any _ _).mono ?_
          rintro e w9 ⟨rfl, hw9⟩
          subst hw9
          refine ⟨_, rfl, ⟨k8.cell (by omega) x6, k8.cell (by omega) x3, k8.cell (by omega) x5, k8.cell (by omega) x7, k8.cell (by omega) hc1, k8.cell (by omega) hc2⟩, ?_⟩
          simp only [Act.put, List.setIfInBounds_toArray, List.set_cons_zero, List.set_cons_succ]
          refine held_call (i := 24) (f := 25) (args := #[.pointer (some ⟨br, 0, none⟩), .int .u64 A, .int .u64 V]) 97 (by kernel_rfl) rfl rfl rfl (by go_simp) ?_
          refine (rstore_at br cr rcap rest ws' nn A V _ (href.kept k8 (by omega) (by omega)) ha0).mono ?_
          rintro e w10 ⟨rfl, r10, k10⟩
          have q6 := k10.cell (by omega) (k8.cell (by omega) x6)
          have q3 := k10.cell (by omega) (k8.cell (by omega) x3)
          have q5 := k10.cell (by omega) (k8.cell (by omega) x5)
          have q7 := k10.cell (by omega) (k8.cell (by omega) x7)
          have hSS2 := And.intro q6 (And.intro q3 (And.intro q5 (And.intro q7 (And.intro (k10.cell (by omega) (k8.cell (by omega) hc1)) (k10.cell (by omega) (k8.cell (by omega) hc2))))))
          refine ⟨_, rfl, hSS2, ?_⟩
          simp only [Act.put, List.setIfInBounds_toArray, List.set_cons_zero, List.set_cons_succ]
          generalize errAt ws'.length A = ee
          refine held_take (i := 25) (v := .bool false) 98 rfl rfl (by kernel_rfl) (by kernel_rfl) (by kernel_rfl) rfl (fun w' hw' => ?_) hSS2 ?_
          · go_simp
          simp only [Act.put, List.setIfInBounds_toArray, List.set_cons_zero, List.set_cons_succ]
          refine held_end (by kernel_rfl) ?_ _
          have hk10 : Keeps (five bt ct br cr (w4.heap.size + 1)) W w10 := ((hKf.mono (fun _ _ f => f.elim)).trans (k8.mono (fun i _ e => by unfold five; omega))).trans (k10.mono (fun i _ e => by unfold five; omega))
          have r11 := r8.kept k10 (by omega) (by omega)
          have cn10 := (k10.block _ (by have := lt_of_block hS6.n; have := k8.size; omega) (by omega)).trans ((k8.block _ (lt_of_block hS6.n) (by omega)).trans hS6.n)
          have y5 := frozen_of_block cn10 0
          have hB10 : Below w.heap.size w w10 := (hB6.trans (k8.below w.heap.size hB6.size (fun i e => by omega))).trans (k10.below w.heap.size (by have := hB6.size; have := k8.size; omega) (fun i e => by omega))
          obtain ⟨g3, g4⟩ := mw_next hS hk10 (fun i hi => by unfold five; omega) (by omega) ((i : Int) + 1) cn10 (by simp) (by rw [putAt_len]; exact HW'.out) r11 r10
          have g5 : Below w.heap.size w (w10.setCell ⟨w4.heap.size + 1, 0, none⟩ (.int .i64 ((i : Int) + 1))) := hB10.setCell (p := ⟨w4.heap.size + 1, 0, none⟩) (by simp; omega) _
          clear hSS hSS2 hk10 r8 k8 r10 k10 r11 q6 q3 q7
          gi_wp2
          exact ⟨KeepsFrom.keeps g4 (fun i hi => by unfold five at hi; omega), Above.keeps g4 (fun i hi => by unfold five at hi; omega), ⟨by rw [List.length_append, HM.out]; exact g3, rounds_snoc HP.out HM.out HV.out⟩, g5⟩
        · obtain ⟨ws', nn, hw', hrow, href⟩ := hS6.rows
          have hge : (l1 : Int) ≤ (i : Int) := by omega
          have y5 := frozen_of_block hS6.n 0
          obtain ⟨g3, g4⟩ := mw_next hS (hKf.mono (fun _ _ f => f.elim)) (fun i hi => by unfold five; omega) (by omega) ((i : Int) + 1) (hS6.n) (by simp) hw' hrow href
          have g5 : Below w.heap.size w (W6.setCell ⟨w4.heap.size + 1, 0, none⟩ (.int .i64 ((i : Int) + 1))) := hB6.setCell (p := ⟨w4.heap.size + 1, 0, none⟩) (by simp; omega) _
          clear hw' hrow href
          gi_wp2
          exact ⟨KeepsFrom.keeps g4 (fun i hi => by unfold five at hi; omega), Above.keeps g4 (fun i hi => by unfold five at hi; omega), ⟨by rw [List.length_append, HM.out]; exact g3, rounds_snoc HP.out HM.out HV.out⟩, g5⟩
      · have hne : (v != ws[i]?.getD 0) = true := by simpa using hv
        have HF : Hid (∀ j, pre ++ [(i, v)] ≠ rounds ws j) := fun j h => by
          have := rounds_last h
          rw [HM.out] at this
          exact hv (Prod.mk.inj this).2
        generalize ws[i]?.getD 0 = y at z1 hne
        clear hv
        gi_wp2
        refine wpIn_round_quiet (by kernel_rfl) (by kernel_rfl) (by kernel_rfl) ?_
        repeat (go_big_quiet_step ((go_at_call 23; exact Calls.quiet_of_same (rlen_at bw _ _ _ _ z0))))
        refine wpQuiet_nil ?_
        rintro _ ⟨nq, rfl⟩
        obtain ⟨g1, g2⟩ := goes_fail hB (r := w.heap.size + 1) (by omega) (B := W5.heap.size) (by omega) nq (.bool false)
        gi_wp2
        exact ⟨g1, HF.out, g2⟩
    · have hne : ((i : Int) != (m : Int)) = true := by simp; omega
      have HF : Hid (∀ j, pre ++ [(i, v)] ≠ rounds ws j) := fun j h => by
        have := rounds_last h
        rw [HM.out] at this
        exact hi (Prod.mk.inj this).1
      clear hi
      gi_wp2
      refine wpIn_round_quiet (by kernel_rfl) (by kernel_rfl) (by kernel_rfl) ?_
      repeat (go_big_quiet_step ((go_at_call 23; exact Calls.quiet_of_same (rlen_at bw _ _ _ _ z0))))
      refine wpQuiet_nil ?_
      rintro _ ⟨nq, rfl⟩
      obtain ⟨g1, g2⟩ := goes_fail hB (r := w.heap.size + 1) (by omega) (B := W5.heap.size) (by omega) nq (.bool false)
      gi_wp2
      exact ⟨g1, HF.out, g2⟩
  case done =>
    rintro D ys W hD hys ⟨⟨hS, _⟩, hB⟩ hK
    rw [hys, rounds_length] at hS
    clear hys
    obtain ⟨ws', nn, hw', hrow, href⟩ := hS.rows
    have x0 : W.cell? ⟨_, 0, none⟩ = some _ := cell_of_block hS.was 0
    have x5 : W.cell? ⟨_, 0, none⟩ = some _ := cell_of_block hS.n 0
    have x6 : W.cell? ⟨_, 0, none⟩ = some _ := cell_of_block hS.t 0
    have x7 : W.cell? ⟨_, 0, none⟩ = some _ := cell_of_block hS.r 0
    have z0 := hS.copy.drew.cell0
    have hres := hS.res
    have hgo := goes_at (some ⟨bt, 0, none⟩) (some ⟨br, 0, none⟩) ws' 0 W.drew (.inr ⟨bt, ct, nn, rfl, hrow.drew⟩) (.inr ⟨br, cr, rcap, rest, nn, rfl, href.drew⟩)
    have HGO : Hid (Calls Try.prog 26 #[.pointer (some ⟨bt, 0, none⟩), .pointer (some ⟨br, 0, none⟩), .int .i64 0] W.drew fun e w' => e = .returned (.bool true) ∧ Below W.drew.heap.size W.drew w') := hgo
    have hRD := hrow.drew
    have hFD := href.drew
    have hlw : w.heap.size + 1 < W.heap.size := lt_of_block hres
    have l5 := lt_of_block hS.n
    have l0 := lt_of_block hS.was
    have l6 := lt_of_block hS.t
    have l7 := lt_of_block hS.r
    have lK := lt_of_block hK
    clear hw' hgo
    gi_wp2
    refine wpIn_wide.2 ?_
    go_region_held3 (fun w' => w'.cell? ⟨w4.heap.size + 1, 0, none⟩ = some (.int .i64 ws.length) ∧ w'.cell? ⟨w4.heap.size, 0, none⟩ = some (.pointer (some ⟨bw, 0, none⟩)) ∧ w'.cell? ⟨w2.heap.size, 0, none⟩ = some (.pointer (some ⟨bt, 0, none⟩)) ∧ w'.cell? ⟨w3.heap.size, 0, none⟩ = some (.pointer (some ⟨br, 0, none⟩))) (first | go_keep | (exact ⟨p5, p0, p6, p7⟩) | (exact ⟨o5, o0, o6, o7⟩) | (exact ⟨(World.cell?_setCell_other _ _ _ _ (by simp <;> omega)).trans o5, (World.cell?_setCell_other _ _ _ _ (by simp <;> omega)).trans o0, (World.cell?_setCell_other _ _ _ _ (by simp <;> omega)).trans o6, (World.cell?_setCell_other _ _ _ _ (by simp <;> omega)).trans o7⟩))
      ((first
        | (go_at_call 23; refine (rlen_at bw _ _ _ _ z0).mono ?_; rintro e w' ⟨rfl, hw'⟩; subst hw')
        | (go_at_call 26; refine HGO.out.mono ?_; rintro e w7 ⟨rfl, k7⟩; have p5 := (k7.cell (p := ⟨w4.heap.size + 1, 0, none⟩) l5).trans x5; have p0 := (k7.cell (p := ⟨w4.heap.size, 0, none⟩) l0).trans x0; have p6 := (k7.cell (p := ⟨w2.heap.size, 0, none⟩) l6).trans x6; have p7 := (k7.cell (p := ⟨w3.heap.size, 0, none⟩) l7).trans x7; have c27 := (hRD.below k7).cell1; have c28 := (hFD.below k7).cell1)
        | (go_at_call 27; refine (accesses_at bt nn _ c27).mono ?_; rintro e w' ⟨rfl, hw'⟩; subst hw')
        | (go_at_call 28; refine (racc_at br nn _ c28).mono ?_; rintro e w' ⟨rfl, hw'⟩; subst hw')
        | (go_at_call 21; refine (known_any _).mono ?_; rintro e w8 ⟨rfl, k8⟩; have o5 := k8.cell (fun f => f) p5; have o0 := k8.cell (fun f => f) p0; have o6 := k8.cell (fun f => f) p6; have o7 := k8.cell (fun f => f) p7; have ores := (k8.block _ (lt_of_block ((k7.block _ hlw).trans hres)) (fun f => f)).trans ((k7.block _ hlw).trans hres); have orc : w8.cell? ⟨w.heap.size + 1, 0, none⟩ = some (.bool false) := cell_of_block ores 0; have orf := frozen_of_block ores 0)))
    have hKd := (KeepsOthers.setCell w8 ⟨w.heap.size + 1, 0, none⟩ (.bool true)).same D _ ((k8.block D (by have := k7.size; simp at this; omega) (fun f => f)).trans ((k7.block D lK).trans hK)) rfl
    have hr8 := block_kept (block_set ores 0 (.bool true)) (grownBy_putObj' _ D (.deferred none)) (fun r e => by cases e; exact ⟨_, hKd, rfl⟩)
    have hr9 := cell_of_block hr8 0
    have hB7 := hB.trans (Below.mono (w := W) (B := W.heap.size) ⟨k7.os, k7.tape, k7.output, k7.size, k7.block⟩ hB.size)
    have hB8 := (keepsB hB7 k8).setCell (p := ⟨w.heap.size + 1, 0, none⟩) (by simp) (.bool true)
    gi_wp2
    refine ⟨by simp, .inl ⟨_, _, rfl, run_takeDeferred hKd, ?_⟩⟩
    refine ⟨.bool true, ?_, rfl, hB8.trans (belowK_b (w := w) (Nat.le_refl _) _ D _ _ (by omega) hKd rfl rfl)⟩
    simp [results, Try.f4, go_sem, hr9]

end Go.Proofs.Ytmffkcbdgpaieaa
