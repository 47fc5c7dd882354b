/-
  No statement of the seat is proved here. (Several texts in one: StaleA, StaleB, NoReads.)
-/
import Derived.Test.YtbgnlenhncbceaaDoorReadsC

/-
  Stale, of the document's log and of the program's. No statement of the seat is proved here.
-/
namespace Go.Proofs.YtbgnlenhncbceaaDoor
open Go.RowKit Go.Shelf
attribute [local go_sem] Oper.semAt_some

theorem Like.trans {a b c : World} (h : Like a b) (k : Like b c) : Like a c := ⟨h.heap.trans k.heap, h.os.trans k.os, h.tape.trans k.tape, h.output.trans k.output⟩
/-- Is an entry stale? Where the first one stands (or how many there are); what Stale answers. -/
def staleB (cs : List Int) (e : Int × Int) : Bool := decide (¬ cs[e.1.toNat]? = some e.2)
def staleN (L : List (Int × Int)) (cs : List Int) : Nat := L.findIdx (staleB cs)
def staleT (L : List (Int × Int)) (cs : List Int) : Bool := decide (staleN L cs < L.length)
def staleK (L : List (Int × Int)) (cs : List Int) : Nat := if staleN L cs < L.length then staleN L cs else 0
theorem stale_at {L : List (Int × Int)} {cs : List Int} {k : Nat} {e : Int × Int} (hk : k ≤ staleN L cs) (he : L[k]? = some e) (hs : staleB cs e = true) : staleT L cs = true ∧ staleK L cs = k := by
  obtain ⟨hl, he'⟩ := List.getElem?_eq_some_iff.1 he
  have h1 : ¬ k < staleN L cs := fun hc => by
    have := List.not_of_lt_findIdx (p := staleB cs) (xs := L) (i := k) hc
    rw [he', hs] at this
    cases this
  have h2 : staleN L cs = k := by omega
  unfold staleT staleK
  rw [h2, if_pos hl]
  exact ⟨by simpa using hl, rfl⟩
theorem stale_next {L : List (Int × Int)} {cs : List Int} {k : Nat} {e : Int × Int} (hk : k ≤ staleN L cs) (he : L[k]? = some e) (hs : staleB cs e = false) : k + 1 ≤ staleN L cs := by
  obtain ⟨hl, he'⟩ := List.getElem?_eq_some_iff.1 he
  have h1 : ¬ staleN L cs = k := fun hc => by
    have h2 : L.findIdx (staleB cs) < L.length := by unfold staleN at hc; omega
    have := List.findIdx_getElem (p := staleB cs) (xs := L) (w := h2)
    unfold staleN at hc
    simp only [hc, he', hs] at this
    cases this
  omega
theorem stale_end {L : List (Int × Int)} {cs : List Int} (hk : L.length ≤ staleN L cs) : staleT L cs = false ∧ staleK L cs = 0 := by
  unfold staleT staleK
  rw [if_neg (by omega)]
  exact ⟨by simp; omega, rfl⟩
theorem staleB_out {cs : List Int} {x y : Int} (h : (cs.length : Int) ≤ x) : staleB cs (x, y) = true := by
  unfold staleB
  rw [List.getElem?_eq_none (by dsimp only; omega)]
  simp
theorem staleB_in {cs : List Int} {x y : Int} (h0 : 0 ≤ x) (h : x < (cs.length : Int)) : staleB cs (x, y) = decide (¬ oat cs x.toNat = y) := by
  unfold staleB oat
  rw [List.getElem?_eq_getElem (by dsimp only; omega)]
  simp

set_option maxRecDepth 100000 in
set_option maxHeartbeats 1000000 in
theorem ref_stale (b most : Nat) (L : List (Int × Int)) (v vc : Value) (cs : List Int) (w : World) (h : RefAt w b most L v) (hL : L.length ≤ 1048576) (hr : Reads w vc cs) (hp : ∀ e, e ∈ L → 0 ≤ e.1) :
    Calls Tryd.prog 44 #[.pointer (some ⟨b, 0, none⟩), vc] w fun e w' => e = .returned (.tuple #[.int .i64 (staleK L cs), .bool (staleT L cs)]) ∧ Like w' w := by
  obtain ⟨al, cl, hv, _, _⟩ := h.row.form
  obtain ⟨hcl, hlies⟩ := hr
  obtain ⟨ac, cc, rfl, hlc⟩ := hlies
  have HC1 : Hid (∀ X, Like X w → X.cell? ⟨b, 1, none⟩ = some (.slice al L.length cl)) := fun X hl => by
    rw [← hv, cell_of_block (by rw [hl.heap]; exact h.box)]; rfl
  have hP := h.row.pairs
  rw [hv] at hP
  have hwc : IntKind.u64.wrap (cs.length : Int) = (cs.length : Int) := by rw [IntKind.wrap_u64]; omega
  have HLC : Hid (∀ X, Like X w → ∀ i, i < cs.length → ∃ g off, ac = some ⟨g, off, none⟩ ∧ X.cell? ⟨g, off + i, none⟩ = some (.int .u64 (oat cs i))) := fun X hl i hi => by
    obtain ⟨g, off, h1, h2⟩ := hlc i hi
    exact ⟨g, off, h1, (World.cell?_of_block (by rw [hl.heap])).trans h2⟩
  clear hv h hlc
  go_enter Tryd.func44, Tryd.ntmps44
  go_wp2_with fail
  go_loopw [6] (fun i wr => ∃ k : Nat, k ≤ L.length ∧ i = .int .i64 k ∧ Hid (k ≤ staleN L cs) ∧ Like wr w) (fun i _ => L.length - (intOf i).toNat)
  case atStart => exact ⟨0, by omega, rfl, Nat.zero_le _, ⟨rfl, rfl, rfl, rfl⟩⟩
  case round =>
    obtain ⟨k, hk, rfl, HS, hl⟩ := hrel
    have hc1 := HC1.out wr hl
    by_cases hlt : k < L.length
    · obtain ⟨g, off, x, y, rfl, hx, HC⟩ := hP.fixed hlt
      obtain ⟨d1, d2⟩ := HC.out wr (hl.keeps (Keeps.refl _ _))
      have hx0 : 0 ≤ x := hp (x, y) (List.mem_of_getElem? hx)
      have hkl : (k : Int) < (L.length : Int) := by omega
      by_cases hxc : (cs.length : Int) ≤ x
      · obtain ⟨s1, s2⟩ := stale_at HS.out hx (staleB_out hxc)
        have HE : Hid (staleT L cs = true ∧ staleK L cs = k) := ⟨s1, s2⟩
        have HL : Hid (Like wr w) := hl
        clear hx s1 s2 HC HS hp hl
        go_wp2_with fail
        go_quiet (fail)
        go_wp2_with fail
        go_ret2
        exact ⟨by rw [HE.out.1, HE.out.2]; rfl, (like_drewN wr nq).trans HL.out⟩
      · obtain ⟨g2, off2, rfl, e2⟩ := HLC.out wr hl x.toNat (by omega)
        have hsb := staleB_in (cs := cs) (y := y) hx0 (by omega)
        have hxl : x < (cs.length : Int) := by omega
        generalize hz : oat cs x.toNat = z at e2 hsb
        by_cases hzy : z = y
        · have hn := stale_next HS.out hx (by rw [hsb]; simp [hzy])
          have HN : Hid (k + 1 ≤ staleN L cs) := hn
          have HL : Hid (Like wr w) := hl
          subst hzy
          clear hx hn hsb HC HS hp hl hz hxc
          go_wp2_with fail
          go_quiet (fail)
          go_wp2_with fail
          go_roundw
          case rel => exact ⟨k + 1, by omega, by go_num, HN.out, (like_drewN wr nq).trans HL.out⟩
          case measure => simp [intOf]; omega
        · obtain ⟨s1, s2⟩ := stale_at HS.out hx (by rw [hsb]; simp [hzy])
          have HE : Hid (staleT L cs = true ∧ staleK L cs = k) := ⟨s1, s2⟩
          have HL : Hid (Like wr w) := hl
          have hne : (z != y) = true := by simp [hzy]
          clear hx s1 s2 hsb HC HS hp hl hz hxc
          go_wp2_with fail
          go_quiet (fail)
          go_wp2_with fail
          go_ret2
          exact ⟨by rw [HE.out.1, HE.out.2]; rfl, (like_drewN wr nq).trans HL.out⟩
    · obtain rfl : k = L.length := by omega
      obtain ⟨s1, s2⟩ := stale_end HS.out
      have HE : Hid (staleT L cs = false ∧ staleK L cs = 0) := ⟨s1, s2⟩
      clear s1 s2 HS hp
      go_wp2_with fail
      go_ret2
      exact ⟨by rw [HE.out.1, HE.out.2]; rfl, hl⟩
end Go.Proofs.YtbgnlenhncbceaaDoor


/-
  Stale of the program's read log. No statement of the seat is proved here.
-/
namespace Go.Proofs.YtbgnlenhncbceaaDoor
open Go.RowKit Go.Shelf
attribute [local go_sem] Oper.semAt_some

/-- What a round of Stale stands on: the cells, the two answers. -/
structure SAt (w X : World) (B : Nat) (vc : Value) (n : Int) (t : Bool) : Prop where
  c : X.heap[B]? = some (.cells #[vc] 39 (0, 0))
  n : X.heap[B + 1]? = some (.cells #[.int .i64 n] 3 (0, 0))
  t : X.heap[B + 1 + 1]? = some (.cells #[.bool t] 4 (0, 0))
  kp : Keeps (fun _ => False) w X
theorem SAt.grown {w A B' : World} {B : Nat} {vc : Value} {n : Int} {t : Bool} (h : SAt w A B vc n t) {row : Option Nat} (hg : A.grownBy B' row) (hr : ∀ r, row = some r → w.heap.size ≤ r ∧ ∃ o : Obj, A.heap[r]? = some o ∧ o.isCells = false) : SAt w B' B vc n t :=
  ⟨block_kept h.c hg (fun r e => (hr r e).2), block_kept h.n hg (fun r e => (hr r e).2), block_kept h.t hg (fun r e => (hr r e).2), h.kp.step (keeps_grown hg) (fun q hq e => by have := (hr q e).1; omega)⟩
theorem SAt.like {w A X : World} {B : Nat} {vc : Value} {n : Int} {t : Bool} (h : SAt w A B vc n t) (l : Like X A) : SAt w X B vc n t :=
  ⟨by rw [l.heap]; exact h.c, by rw [l.heap]; exact h.n, by rw [l.heap]; exact h.t, l.keeps h.kp⟩
theorem SAt.set {w X : World} {B : Nat} {vc : Value} {n : Int} {t : Bool} (h : SAt w X B vc n t) (hB : w.heap.size ≤ B) (n' : Int) (t' : Bool) : SAt w ((X.setCell ⟨B + 1, 0, none⟩ (.int .i64 n')).setCell ⟨B + 1 + 1, 0, none⟩ (.bool t')) B vc n' t' :=
  ⟨block_other (block_other h.c (by omega) _ _) (by omega) _ _, block_other (block_set h.n 0 _) (by omega) _ _, block_set (block_other h.t (by omega) _ _) 0 _, (h.kp.setCell (p := ⟨B + 1, 0, none⟩) (.inl (by show w.heap.size ≤ B + 1; omega)) _).setCell (p := ⟨B + 1 + 1, 0, none⟩) (.inl (by show w.heap.size ≤ B + 1 + 1; omega)) _⟩

set_option maxRecDepth 100000 in
set_option maxHeartbeats 4000000 in
theorem stale_of (p : Option Addr) (es : List (Int × Int)) (hes : es.length ≤ 4398046511104) (vc : Value) (cs : List Int) (T : Nat → Nat → Prop) (w : World) (hr : Reads w vc cs) (hp : ∀ e, e ∈ es → 0 ≤ e.1)
    (hT : ∀ M k, w.heap.size ≤ M → T M k → k < w.heap.size ∨ M ≤ k)
    (hh : ∀ W, Keeps (fun _ => False) w W → Calls Tryd.prog 42 #[.pointer p] W fun e w' => ∃ a c, e = .returned (.slice a es.length c) ∧ ListAt (T W.heap.size) w' a es ∧ Keeps (fun _ => False) W w') :
    Calls Tryd.prog 40 #[.pointer p, vc] w fun e w' => e = .returned (.tuple #[.int .i64 (staleK es cs), .bool (staleT es cs)]) ∧ Keeps (fun _ => False) w w' := by
  obtain ⟨hcl, hlies⟩ := hr
  obtain ⟨ac, cc, rfl, hlc⟩ := hlies
  have hwc : IntKind.u64.wrap (cs.length : Int) = (cs.length : Int) := by rw [IntKind.wrap_u64]; omega
  have HLC : Hid (∀ X, Keeps (fun _ => False) w X → ∀ i, i < cs.length → ∃ g off, ac = some ⟨g, off, none⟩ ∧ X.cell? ⟨g, off + i, none⟩ = some (.int .u64 (oat cs i))) := fun X hk i hi => by
    obtain ⟨g, off, h1, h2⟩ := hlc i hi
    exact ⟨g, off, h1, (World.cell?_of_block (hk.block g (World.block_lt_of_cell? _ _ h2) (fun f => f))).trans h2⟩
  clear hlc
  have hmx : Tryd.prog.follows .mixedOrders = true := by kernel_rfl
  refine (callsIn_wide (n := 5)).1 ?_
  refine callsIn_of_wp_marks Tryd.func40 rfl trivial ?_ rfl
  simp only [Tryd.ntmps40, List.size_toArray, List.length_cons, List.length_nil, Nat.reduceAdd, Nat.reduceSub, Array.replicate_succ, Array.replicate_zero, List.push_toArray, List.append_toArray, List.nil_append, List.cons_append]
  gi_wp2_with fail
  refine ⟨trivial, (callsIn_wide.2 (all_reads p _)).mono ?_⟩
  rintro e W4 ⟨rfl, hW4⟩
  simp only [World.size_alloc] at hW4 ⊢
  have e0 := alloc_old (alloc_old (alloc_old (alloc_block w (.cells #[.slice ac cs.length cc] 39)) (.cells #[.int .i64 0] 3)) (.cells #[.bool false] 4)) (.cells #[.func (.func 42) #[.pointer p] #[]] 69)
  have e1 := alloc_old (alloc_old (alloc_block (w.alloc (.cells #[.slice ac cs.length cc] 39)) (.cells #[.int .i64 0] 3)) (.cells #[.bool false] 4)) (.cells #[.func (.func 42) #[.pointer p] #[]] 69)
  have e2 := alloc_old (alloc_block ((w.alloc (.cells #[.slice ac cs.length cc] 39)).alloc (.cells #[.int .i64 0] 3)) (.cells #[.bool false] 4)) (.cells #[.func (.func 42) #[.pointer p] #[]] 69)
  have e3 := alloc_block (((w.alloc (.cells #[.slice ac cs.length cc] 39)).alloc (.cells #[.int .i64 0] 3)).alloc (.cells #[.bool false] 4)) (.cells #[.func (.func 42) #[.pointer p] #[]] 69)
  simp only [World.size_alloc] at e1 e2 e3
  have hk4 : Keeps (fun _ => False) w ((((w.alloc (.cells #[.slice ac cs.length cc] 39)).alloc (.cells #[.int .i64 0] 3)).alloc (.cells #[.bool false] 4)).alloc (.cells #[.func (.func 42) #[.pointer p] #[]] 69)) := ((((Keeps.refl _ w).alloc _).alloc _).alloc _).alloc _
  have hz4 : ((((w.alloc (.cells #[.slice ac cs.length cc] 39)).alloc (.cells #[.int .i64 0] 3)).alloc (.cells #[.bool false] 4)).alloc (.cells #[.func (.func 42) #[.pointer p] #[]] 69)).heap.size = w.heap.size + 4 := by simp
  rw [← hW4] at e0 e1 e2 e3 hk4 hz4
  clear hW4
  have hS4 : SAt w W4 w.heap.size (.slice ac cs.length cc) 0 false := ⟨e0, e1, e2, hk4⟩
  have HZ : Hid (W4.heap.size = w.heap.size + 4) := hz4
  have hTn : ∀ q, w.heap.size ≤ q → q < w.heap.size + 4 → ¬ T (W4.heap.size + 2) q := fun q h1 h2 e => by
    rcases hT _ q (by omega) e with e | e <;> omega
  clear e0 e1 e2
  gi_wp2_with fail
  refine' range_at rfl (by omega) (gf := 58) (lb := #[.pointer (some ⟨w.heap.size + 1 + 1 + 1, 0, none⟩)]) rfl trivial (enters_of Tryd.func58 (by kernel_rfl) rfl)
    (walk_seq (5 - 1) (by omega) (w.heap.size + 1 + 1 + 1) 42 (W4.heap.size + 2) 0 p es hes (T (W4.heap.size + 2)) (0, 0) W4 (enters_of Tryd.func42 (by kernel_rfl) rfl) e3 (fun W hW hM => by have h1 := hh W (hk4.trans (Keeps.of_below hW _)); rw [hM] at h1; exact h1.mono (fun e w' ⟨a, c, q1, q2, q3⟩ => ⟨a, c, q1, q2, q3, fun _ => Nat.zero_le _⟩))) (Below.refl _ _)
    (fun h k => h.trans k) (fun W o => KeptOn.keeps ((Keeps.refl (fun _ => False) W).alloc o) (fun _ _ f => f)) (fun W r r' hl => KeptOn.putObj W _ _ _ hl rfl) (fun _ => rfl)
    (fun pre X => SAt w X w.heap.size (.slice ac cs.length cc) 0 false ∧ pre.length ≤ staleN es cs)
    (fun c _ X => c = .ret ∧ SAt w X w.heap.size (.slice ac cs.length cc) (staleK es cs) true ∧ staleT es cs = true)
    (fun s A B row hs hg hr => ⟨hs.1.grown hg (fun r e => ⟨by have := (hr r e).1; omega, (hr r e).2⟩), hs.2⟩)
    (fun c s A B row hs hg hr => ⟨hs.1, hs.2.1.grown hg (fun r e => ⟨by have := (hr r e).1; omega, (hr r e).2⟩), hs.2.2⟩)
    ⟨hS4, Nat.zero_le _⟩ (fun x => .cells #[.int .u64 x.2.1, .int .u64 x.2.2] 72) _ ?assign ?body ?done ?stop
  case assign =>
    intro l x W K b hb hK
    dsimp only [entE]
    gi_wp2
    exact hK
  case body =>
    clear hS4 hz4 e3
    rintro l pre ⟨k, a, y⟩ X ⟨hS, hst⟩ hlen ⟨hx1, hx2⟩ b hb hb1 hb2 _
    dsimp only at hx1 hx2 hb ⊢
    rw [← hx1] at hx2 hst hlen
    have ha0 : 0 ≤ a := hp (a, y) (List.mem_of_getElem? hx2)
    have x0 : X.cell? ⟨_, 0, none⟩ = some _ := cell_of_block hS.c 0
    have x1 : X.cell? ⟨_, 0, none⟩ = some _ := cell_of_block hS.n 0
    have x2 : X.cell? ⟨_, 0, none⟩ = some _ := cell_of_block hS.t 0
    have y1 := frozen_of_block hS.n 0
    have y2 := frozen_of_block hS.t 0
    have c0 : X.cell? ⟨b, 0, none⟩ = some (.int .u64 a) := cell_of_block hb 0
    have c1 : X.cell? ⟨b, 1, none⟩ = some (.int .u64 y) := cell_of_block hb 1
    have HK : Hid (k = pre.length) := hx1
    have hfinS : Hid (staleB cs (a, y) = true → ∀ nq, KeepsFrom W4.heap.size X (((X.drewN nq).setCell ⟨w.heap.size + 1, 0, none⟩ (.int .i64 k)).setCell ⟨w.heap.size + 1 + 1, 0, none⟩ (.bool true)) ∧ SAt w (((X.drewN nq).setCell ⟨w.heap.size + 1, 0, none⟩ (.int .i64 k)).setCell ⟨w.heap.size + 1 + 1, 0, none⟩ (.bool true)) w.heap.size (.slice ac cs.length cc) (staleK es cs) true ∧ staleT es cs = true) := fun hs nq => by
      obtain ⟨s1, s2⟩ := stale_at hst hx2 hs
      rw [s2]
      have kf1 := keepsFrom_set (B := W4.heap.size) (X.drewN nq) ⟨w.heap.size + 1, 0, none⟩ (.int .i64 k)
      have kf2 := keepsFrom_set (B := W4.heap.size) ((X.drewN nq).setCell ⟨w.heap.size + 1, 0, none⟩ (.int .i64 k)) ⟨w.heap.size + 1 + 1, 0, none⟩ (.bool true)
      have := kf1.trans kf2
      exact ⟨⟨this.size, this.same⟩, (hS.like (like_drewN X nq)).set (Nat.le_refl _) _ _, s1⟩
    have hfinN : Hid (staleB cs (a, y) = false → ∀ nq, KeepsFrom W4.heap.size X (X.drewN nq) ∧ KeptOn (T (W4.heap.size + 2)) X (X.drewN nq) ∧ SAt w (X.drewN nq) w.heap.size (.slice ac cs.length cc) 0 false ∧ (pre ++ [(k, a, y)]).length ≤ staleN es cs) := fun hs nq => by
      have hl1 := like_drewN X nq
      have s1 := stale_next hst hx2 hs
      exact ⟨⟨by rw [hl1.heap]; exact Nat.le_refl _, fun k c hk h1 h2 => by rw [hl1.heap]; exact h1⟩, ⟨by rw [hl1.heap]; exact Nat.le_refl _, fun k c t f h1 h2 => by rw [hl1.heap]; exact h2⟩, hS.like hl1, by rw [List.length_append, ← HK.out]; exact s1⟩
    have HX : Hid (Keeps (fun _ => False) w X) := hS.kp
    clear hx1 hx2 hst hS
    by_cases hxc : (cs.length : Int) ≤ a
    · have hsb := staleB_out (cs := cs) (y := y) hxc
      have HF := fun nq => hfinS.out hsb nq
      have HG : Hid (_) := HF
      clear hsb HF hfinS hfinN
      gi_wp2
      refine wpIn_round_quiet (by kernel_rfl) (by kernel_rfl) (by kernel_rfl) ?_
      repeat (go_big_quiet_step (fail))
      refine wpQuiet_nil ?_
      rintro _ ⟨nq, rfl⟩
      gi_wp2
      exact ⟨(HG.out nq).1, rfl, (HG.out nq).2⟩
    · have hxl : a < (cs.length : Int) := by omega
      have hga : decide ((cs.length : Int) ≤ a) = false := by simp; omega
      obtain ⟨g2, off2, rfl, e2⟩ := HLC.out X HX.out a.toNat (by omega)
      have hsb := staleB_in (cs := cs) (y := y) ha0 hxl
      generalize hz : oat cs a.toNat = z at e2 hsb
      by_cases hzy : z = y
      · have HG : Hid (∀ nq, _) := hfinN.out (by rw [hsb]; simp [hzy])
        subst hzy
        clear hsb hfinS hfinN hz
        gi_wp2
        refine wpIn_round_quiet (by kernel_rfl) (by kernel_rfl) (by kernel_rfl) ?_
        repeat (go_big_quiet_step (fail))
        refine wpQuiet_nil ?_
        rintro _ ⟨nq, rfl⟩
        gi_wp2
        exact HG.out nq
      · have HG : Hid (∀ nq, _) := hfinS.out (by rw [hsb]; simp [hzy])
        have hne : (z != y) = true := by simp [hzy]
        clear hsb hfinS hfinN hz
        gi_wp2
        refine wpIn_round_quiet (by kernel_rfl) (by kernel_rfl) (by kernel_rfl) ?_
        repeat (go_big_quiet_step (fail))
        refine wpQuiet_nil ?_
        rintro _ ⟨nq, rfl⟩
        gi_wp2
        exact ⟨(HG.out nq).1, rfl, (HG.out nq).2⟩
  case stop =>
    rintro c pre X _ ⟨rfl, hS, hst⟩ hK
    have hN := block_kept hS.n (grownBy_putObj' X W4.heap.size (.deferred none)) (fun r e => by cases e; exact ⟨_, hK, rfl⟩)
    have hT' := block_kept hS.t (grownBy_putObj' X W4.heap.size (.deferred none)) (fun r e => by cases e; exact ⟨_, hK, rfl⟩)
    have r8 : ((X.putObj W4.heap.size (.deferred none))).cell? ⟨w.heap.size + 1, 0, none⟩ = some (.int .i64 (staleK es cs)) := cell_of_block hN 0
    have r9 : ((X.putObj W4.heap.size (.deferred none))).cell? ⟨w.heap.size + 1 + 1, 0, none⟩ = some (.bool true) := cell_of_block hT' 0
    have hkp := hS.kp.step (keeps_grown (grownBy_putObj' X W4.heap.size (.deferred none))) (fun q hq e => by injection e with e; omega)
    have HE : Hid (staleT es cs = true) := hst
    clear hS hS4 hN hT' hst
    gi_wp2
    refine ⟨by simp, .inl ⟨_, _, rfl, run_takeDeferred hK, ?_⟩⟩
    refine ⟨.tuple #[.int .i64 (staleK es cs), .bool true], ?_, by rw [HE.out], hkp⟩
    simp [results, Tryd.f40, go_sem, r8, r9]
  case done =>
    rintro ys X hys ⟨hS, hst⟩ hK
    obtain ⟨s1, s2⟩ := stale_end (L := es) (cs := cs) (by omega)
    have HE : Hid (staleT es cs = false ∧ staleK es cs = 0) := ⟨s1, s2⟩
    have hS2 := hS.set (Nat.le_refl _) 0 false
    have hne1 : W4.heap.size ≠ w.heap.size + 1 := by omega
    have hne2 : W4.heap.size ≠ w.heap.size + 1 + 1 := by omega
    have hK2 : ((X.setCell ⟨w.heap.size + 1, 0, none⟩ (.int .i64 0)).setCell ⟨w.heap.size + 1 + 1, 0, none⟩ (.bool false)).heap[W4.heap.size]? = some (.deferred (some [])) := (Below.heap_setCell _ ⟨w.heap.size + 1 + 1, 0, none⟩ _ _ hne2).trans ((Below.heap_setCell X ⟨w.heap.size + 1, 0, none⟩ _ _ hne1).trans hK)
    have hN := block_kept hS2.n (grownBy_putObj' _ W4.heap.size (.deferred none)) (fun r e => by cases e; exact ⟨_, hK2, rfl⟩)
    have hT' := block_kept hS2.t (grownBy_putObj' _ W4.heap.size (.deferred none)) (fun r e => by cases e; exact ⟨_, hK2, rfl⟩)
    have r8 : ((((X.setCell ⟨w.heap.size + 1, 0, none⟩ (.int .i64 0)).setCell ⟨w.heap.size + 1 + 1, 0, none⟩ (.bool false)).putObj W4.heap.size (.deferred none))).cell? ⟨w.heap.size + 1, 0, none⟩ = some (.int .i64 0) := cell_of_block hN 0
    have r9 : ((((X.setCell ⟨w.heap.size + 1, 0, none⟩ (.int .i64 0)).setCell ⟨w.heap.size + 1 + 1, 0, none⟩ (.bool false)).putObj W4.heap.size (.deferred none))).cell? ⟨w.heap.size + 1 + 1, 0, none⟩ = some (.bool false) := cell_of_block hT' 0
    have hkp := hS2.kp.step (keeps_grown (grownBy_putObj' _ W4.heap.size (.deferred none))) (fun q hq e => by injection e with e; omega)
    have x1 : X.cell? ⟨_, 0, none⟩ = some _ := cell_of_block hS.n 0
    have x2 : X.cell? ⟨_, 0, none⟩ = some _ := cell_of_block hS.t 0
    have y1 := frozen_of_block hS.n 0
    have y2 := frozen_of_block hS.t 0
    clear hS hS2 hS4 hys hN hT' hst s1 s2
    gi_wp2
    refine ⟨by simp, .inl ⟨_, _, rfl, run_takeDeferred hK2, ?_⟩⟩
    refine ⟨.tuple #[.int .i64 0, .bool false], ?_, by rw [HE.out.1, HE.out.2]; rfl, hkp⟩
    simp [results, Tryd.f40, go_sem, r8, r9]
end Go.Proofs.YtbgnlenhncbceaaDoor


/-
  Stale of a log that is there and of one that is none; the law's own look at a log that is none. No statement of the seat is proved here.
-/
namespace Go.Proofs.YtbgnlenhncbceaaDoor
open Go.RowKit Go.Shelf
attribute [local go_sem] Oper.semAt_some

theorem handed_list {r most : Nat} {es : List (Int × Int)} {v : Value} {w : World} (h : ReadAt w r most es v) :
    Calls Tryd.prog 42 #[.pointer (some ⟨r, 0, none⟩)] w fun e w' => ∃ a c, e = .returned (.slice a es.length c) ∧ ListAt (fun k => v.ownBlock = some k) w' a es ∧ Keeps (fun _ => False) w w' := by
  obtain ⟨a, c, rfl, hc1, _⟩ := h.ents.form
  refine (reads_handed r _ c a w h.c2 hc1).mono ?_
  rintro e w' ⟨rfl, rfl⟩
  exact ⟨a, _, rfl, h.ents.listAt (fun g off e => by rw [e]; rfl), Keeps.refl _ _⟩
theorem reads_stale (r most : Nat) (es : List (Int × Int)) (v vc : Value) (cs : List Int) (w : World) (h : ReadAt w r most es v) (hr : Reads w vc cs) (hp : ∀ e, e ∈ es → 0 ≤ e.1) :
    Calls Tryd.prog 40 #[.pointer (some ⟨r, 0, none⟩), vc] w fun e w' => e = .returned (.tuple #[.int .i64 (staleK es cs), .bool (staleT es cs)]) ∧ Keeps (fun _ => False) w w' :=
  stale_of _ es (by have := h.fit; have := h.most20; omega) vc cs (fun _ k => v.ownBlock = some k) w hr hp (fun M k _ e => .inl (h.ents.lt e)) (fun W hk => handed_list (h.kept hk (fun f => f) (fun _ _ f => f)))
theorem stale_none (p : Option Addr) (vc : Value) (cs : List Int) (w : World) (h : NoRead w p) (hr : Reads w vc cs) :
    Calls Tryd.prog 40 #[.pointer p, vc] w fun e w' => e = .returned (.tuple #[.int .i64 0, .bool false]) ∧ Keeps (fun _ => False) w w' :=
  (stale_of p [] (by simp) vc cs (fun _ _ => False) w hr (fun e he => by simp at he) (fun _ _ _ f => f.elim) (fun W hk => (handed_none p W (h.keeps hk)).mono fun e w' ⟨h1, h2⟩ => ⟨none, 0, h1, fun i hi => by simp at hi, by rw [h2]; exact Keeps.refl _ _⟩)).mono fun e w' ⟨h1, h2⟩ => ⟨h1, h2⟩
theorem walk_none (p : Option Addr) (bx : Nat) (m : Int) (w : World) (h : NoRead w p) (hbx : w.heap[bx]? = some (.cells #[.func (.func 42) #[.pointer p] #[]] 69 (0, 0))) :
    Calls Tryd.prog 14 #[.func (.func 58) #[] #[.pointer (some ⟨bx, 0, none⟩)], .slice none 0 0, .int .i64 m] w fun e w' => e = .returned (.bool true) ∧ Keeps (fun _ => False) w w' :=
  lwalk bx 42 p [] (by simp) (.slice none 0 0) m (fun _ _ => False) (0, 0) w (enters_of Tryd.func42 (by kernel_rfl) rfl) hbx ⟨none, 0, rfl, fun i hi => by simp at hi⟩ (fun _ _ _ f => f.elim)
    (fun W hk => (handed_none p W (h.keeps hk)).mono fun e w' ⟨h1, h2⟩ => ⟨none, 0, h1, fun i hi => by simp at hi, by rw [h2]; exact Keeps.refl _ _⟩)

set_option maxRecDepth 100000 in
set_option maxHeartbeats 1000000 in
theorem noReads_true (p : Option Addr) (w : World) (h : NoRead w p) : Calls Tryd.prog 9 #[.pointer p] w fun e w' => e = .returned (.bool true) ∧ Keeps (fun _ => False) w w' := by
  have HN : Hid (∀ W, Keeps (fun _ => False) w W → NoRead W p) := fun W hk => h.keeps hk
  clear h
  go_enter Tryd.func9, Tryd.ntmps9
  go_wp2_with fail
  refine (at_none p 0 _ (HN.out _ (Keeps.refl _ _))).mono ?_
  rintro e w1 ⟨rfl, hk1⟩
  go_wp2_with fail
  have hk2 : Keeps (fun _ => False) w ((w1.alloc (.cells #[.int .u64 0, .int .u64 0] 72)).alloc (.cells #[.int .u64 1] 38)) := (hk1.alloc _).alloc _
  have hb2 := alloc_old (alloc_block w1 (.cells #[.int .u64 0, .int .u64 0] 72)) (.cells #[.int .u64 1] 38)
  have hu2 := alloc_block (w1.alloc (.cells #[.int .u64 0, .int .u64 0] 72)) (.cells #[.int .u64 1] 38)
  simp only [World.size_alloc] at hu2
  have hr2 : Reads ((w1.alloc (.cells #[.int .u64 0, .int .u64 0] 72)).alloc (.cells #[.int .u64 1] 38)) (.slice (some ⟨w1.heap.size + 1, 0, none⟩) 1 1) [1] := ⟨by simp, _, _, rfl, fun i hi => ⟨_, 0, rfl, by
    obtain rfl : i = 0 := by simpa using hi
    exact cell_of_block hu2 0⟩⟩
  refine (stale_none p _ [1] _ (HN.out _ hk2) hr2).mono ?_
  rintro e w3 ⟨rfl, hk3⟩
  have hk3' := hk2.trans hk3
  have hb3 := hk3.old hb2 (fun f => f)
  clear hk1 hk2 hk3 hb2 hu2 hr2
  generalize w1.heap.size = B at *
  have n3 := HN.out _ hk3'
  have ha3 := add_none p 0 0 w3 n3
  have hc3 := cut_none p 0 w3 n3
  have hl3 := len_none p w3 n3
  have x0 : w3.cell? ⟨B, 0, none⟩ = some (.int .u64 0) := cell_of_block hb3 0
  have x1 : w3.cell? ⟨B, 1, none⟩ = some (.int .u64 0) := cell_of_block hb3 1
  go_wp2_with (first
    | (go_at_call 28; refine ha3.mono ?_; rintro e w' ⟨rfl, hw'⟩; replace hw' := hw'.symm; subst hw')
    | (go_at_call 8; refine (num_any _ _).mono ?_; rintro e w' ⟨rfl, hw'⟩; replace hw' := hw'.symm; subst hw')
    | (go_at_call 31; refine hc3.mono ?_; rintro e w' ⟨rfl, hw'⟩; replace hw' := hw'.symm; subst hw')
    | (go_at_call 32; refine hl3.mono ?_; rintro e w' ⟨rfl, hw'⟩; replace hw' := hw'.symm; subst hw'))
  refine (all_reads p w3).mono ?_
  rintro e w4 ⟨rfl, hw4⟩
  have hb4 : w4.heap[w3.heap.size]? = some (.cells #[.func (.func 42) #[.pointer p] #[]] 69 (0, 0)) := by rw [hw4]; exact alloc_block _ _
  have hk4 : Keeps (fun _ => False) w w4 := by rw [hw4]; exact hk3'.alloc _
  clear hw4 ha3 hc3 hl3 x0 x1
  have hwn := walk_none p w3.heap.size 0 w4 (HN.out _ hk4) hb4
  go_wp2_with fail
  refine hwn.mono ?_
  rintro e w5 ⟨rfl, hk5⟩
  have hk5' := hk4.trans hk5
  have hcn := copy_none p w5 (HN.out _ hk5')
  clear hwn hb4 hk4 hk5
  go_wp2_with (go_at_call 11; refine hcn.mono ?_; rintro e w' ⟨rfl, hw'⟩; replace hw' := hw'.symm; subst hw')
  go_ret
  exact ⟨rfl, hk5'⟩
end Go.Proofs.YtbgnlenhncbceaaDoor
