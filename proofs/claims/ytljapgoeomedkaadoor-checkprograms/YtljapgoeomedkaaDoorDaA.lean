
/- The document's table of ways; walks of its behind, pass and spread. No statement of the seat is proved here. -/
import Derived.Test.YtljapgoeomedkaaDoorChO
import Derived.Deep.LoopGhost
namespace Go.Proofs.YtljapgoeomedkaaDoor
open Go.RowKit Go.Shelf

theorem rbehind_any (i : I5) (s : Bool) (w : World) : Calls Tryd.prog 61 #[.agg i.cells, .int .i64 (sideN s + 1)] w fun e w' => e = .returned (.int .i64 (sideN (sideB i.op s) + 1)) ∧ Keeps (fun _ => False) w w' := by
  obtain ⟨op, a, b, c, n⟩ := i
  have k0 := (Keeps.refl (fun _ => False) w).alloc (.cells #[.int .i64 op, .int .i64 a, .int .i64 b, .int .i64 c, .int .u64 n] 50)
  unfold sideB
  dsimp only
  generalize hs : sideN s + 1 = z
  by_cases h1 : op = 12
  · subst h1
    go_enter Tryd.func61, Tryd.ntmps61
    go_wp2_with fail
    go_ret
    exact ⟨rfl, k0⟩
  · by_cases h2 : op = 15
    · subst h2
      go_enter Tryd.func61, Tryd.ntmps61
      go_wp2_with fail
      go_ret
      exact ⟨rfl, k0⟩
    · by_cases h3 : op = 16
      · subst h3
        go_enter Tryd.func61, Tryd.ntmps61
        go_wp2_with fail
        go_ret
        exact ⟨rfl, k0⟩
      · rw [if_neg h1, if_neg (by omega), hs]
        go_enter Tryd.func61, Tryd.ntmps61
        go_wp2_with fail
        go_ret
        exact ⟨rfl, k0⟩

/-- The document's table: of each place three truths, the last two of them by its modes. -/
def Fn3 (w : World) (f n : Nat) (R : Nat → Bool → Bool) : Prop := ∃ c, w.heap[f]? = some (.cells c 83 (0, 0)) ∧ c.size = n * 3 ∧ ∀ a, a < n → c[a * 3 + 1]? = some (.bool (R a false)) ∧ c[a * 3 + 2]? = some (.bool (R a true))
theorem Fn3.keeps {w w' : World} {f n : Nat} {R : Nat → Bool → Bool} {S : Nat → Prop} (h : Fn3 w f n R) (k : Keeps S w w') (hs : ¬ S f) : Fn3 w' f n R := by
  obtain ⟨c, h1, h2, h3⟩ := h
  exact ⟨c, (k.block f (lt_of_block h1) hs).trans h1, h2, h3⟩
theorem Fn3.cell {w : World} {f n : Nat} {R : Nat → Bool → Bool} (h : Fn3 w f n R) {a : Nat} (ha : a < n) : w.cell? ⟨f, a * 3 + 1, none⟩ = some (.bool (R a false)) ∧ w.cell? ⟨f, a * 3 + 2, none⟩ = some (.bool (R a true)) := by
  obtain ⟨c, h1, h2, h3⟩ := h
  rw [cell_of_block h1, cell_of_block h1]
  exact h3 a ha
theorem Fn3.cell1 {w : World} {f n : Nat} {R : Nat → Bool → Bool} (h : Fn3 w f n R) {a : Nat} (ha : a < n) (t : Bool) : w.cell? ⟨f, a * 3 + (t.toNat + 1), none⟩ = some (.bool (R a t)) := by
  cases t
  · exact (h.cell ha).1
  · exact (h.cell ha).2
theorem Fn3.lt {w : World} {f n : Nat} {R : Nat → Bool → Bool} (h : Fn3 w f n R) : f < w.heap.size := by
  obtain ⟨c, h1, _⟩ := h
  exact lt_of_block h1
theorem Fn3.frozen {w : World} {f n : Nat} {R : Nat → Bool → Bool} (h : Fn3 w f n R) (i : Nat) : w.frozen? ⟨f, i, none⟩ = false := by
  obtain ⟨c, h1, _⟩ := h
  exact frozen_of_block h1 i
theorem Fn3.mark {w : World} {f n : Nat} {R : Nat → Bool → Bool} (h : Fn3 w f n R) {b : Nat} (t : Bool) (hb : b < n) : Fn3 (w.setCell ⟨f, b * 3 + (t.toNat + 1), none⟩ (.bool true)) f n (markR R b t) := by
  obtain ⟨c, h1, h2, h3⟩ := h
  refine ⟨_, block_set h1 _ _, by simpa using h2, fun a ha => ?_⟩
  obtain ⟨q0, q1⟩ := h3 a ha
  have ht : t.toNat ≤ 1 := by cases t <;> decide
  rw [Array.getElem?_setIfInBounds, Array.getElem?_setIfInBounds]
  unfold markR
  by_cases hab : a = b
  · subst hab
    cases t
    · simp only [Bool.toNat_false, Nat.zero_add, if_true]
      rw [if_pos (by omega), if_neg (by omega)]
      simp [q1]
    · simp only [Bool.toNat_true, Nat.reduceAdd, if_true]
      rw [if_neg (by omega), if_pos (by omega)]
      simp [q0]
  · rw [if_neg (by omega), if_neg (by omega)]
    simp [q0, q1, hab]
theorem info_b3 : (Tryd.prog.info? 83).map (fun i => (i.zero, i.size, i.bytes)) = some (some (.agg #[.bool false, .bool false, .bool false]), 3, 3) := by kernel_rfl
/-- make([][3]bool, n). -/
theorem run_b3 (w : World) (n : Nat) (h1 : n ≤ 65536) :
    ∃ x : Array Value, (Instr.makeSlice 81 (.int .i64 (n : Int)) (.int .i64 (n : Int))).run Tryd.prog w = .ok (.slice (some ⟨w.heap.size, 0, none⟩) n n) (w.alloc (.cells x 83)) ∧ Fn3 (w.alloc (.cells x 83)) w.heap.size n fun _ _ => false := by
  obtain ⟨i0, hi, hz0, hz1, hz2⟩ := info_parts info_b3
  have h := run_make (P := Tryd.prog) w 81 83 i0 _ Tryd.underlying81 hi hz0 .i64 .i64 (n : Int) (n : Int) (by omega) (Int.le_refl _) (by rw [hz2]; omega) (by omega)
  rw [hz1, Int.toNat_natCast] at h
  refine ⟨_, h, _, heap_alloc_new _ _, ?_, fun a ha => ?_⟩
  · simp [madeCells]
  · have e0 : a * 3 + 1 < n * 3 := by omega
    have e1 : a * 3 + 2 < n * 3 := by omega
    have f0 : (a * 3 + 1) % 3 = 1 := by omega
    have f1 : (a * 3 + 2) % 3 = 2 := by omega
    constructor
    · simp [madeCells, Value.cells, e0, f0]
    · simp [madeCells, Value.cells, e1, f1]
/-- Numbers where they lie, in blocks that are younger than b. -/
def NumSt (b : Nat) (w : World) (v : Value) (L : List Int) : Prop := ∀ X, Keeps (fun q => q < b) w X → NumAt X v L
theorem ns_one {b : Nat} {w : World} {x : Int} (hb : b ≤ w.heap.size) : NumSt b (w.alloc (.cells #[.int .i64 x] 3)) (.slice (some ⟨w.heap.size, 0, none⟩) 1 1) [x] := fun X k =>
  num_block (L := [x]) (n := 1) ((k.block _ (by simp) (by omega)).trans (heap_alloc_new _ _)) rfl (fun k hk => by obtain rfl : k = 0 := (by simp at hk; omega); rfl) 1
theorem ns_two {b : Nat} {w : World} {x y : Int} (hb : b ≤ w.heap.size) : NumSt b (w.alloc (.cells #[.int .i64 x, .int .i64 y] 3)) (.slice (some ⟨w.heap.size, 0, none⟩) 2 2) [x, y] := fun X k =>
  num_block (L := [x, y]) (n := 2) ((k.block _ (by simp) (by omega)).trans (heap_alloc_new _ _)) rfl (fun k hk => by
    have : k = 0 ∨ k = 1 := by simp at hk; omega
    rcases this with rfl | rfl <;> rfl) 2
theorem ns_nil (b : Nat) (w : World) : NumSt b w (.slice none 0 0) [] := fun X _ => num_nil X
/-- What the document's Followers answers, in new memory. -/
def HPost (i : I5) (a : Nat) (w : World) (e : Ending) (w' : World) : Prop := ∃ v, e = .returned v ∧ NumSt w.heap.size w' v ((folL i a).map fun (n : Nat) => (n : Int)) ∧ Keeps (fun _ => False) w w'
set_option maxRecDepth 100000 in
set_option maxHeartbeats 4000000 in
theorem rfollow2_any (v : Value) (p : List I5) (a : Nat) (w : World) (h : InsAt w v p) (hlt : a < p.length) : Calls Tryd.prog 26 #[v, .int .i64 a] w (HPost (at5 p a) a w) := by
  obtain ⟨⟨av, cap, rfl, hc⟩, hwf, hbig⟩ := h
  obtain ⟨pg, po, rfl, d0, d1, d2, d3, d4⟩ := hc a hlt
  have h5 : p[a]'hlt = at5 p a := by simp [at5, hlt]
  have hw5 := hwf _ (List.getElem_mem hlt)
  rw [h5] at d0 d1 d2 d3 d4 hw5
  have hai : (a : Int) < p.length := by omega
  have ht := tgt_int hw5
  have TA := target_any (at5 p a).n hw5.2.2.2.2.1 hw5.2.2.2.2.2
  clear hc h5
  generalize at5 p a = i at *
  unfold HPost folL
  generalize tgtN i = t at *
  obtain ⟨op, ia, ib, ic, n⟩ := i
  dsimp only at d0 d1 d2 d3 d4 ht TA ⊢
  rw [← ht] at TA
  clear ht
  obtain ⟨w0, hw0⟩ : ∃ W, W = w.alloc (.cells #[.int .i64 op, .int .i64 ia, .int .i64 ib, .int .i64 ic, .int .u64 n] 50) := ⟨_, rfl⟩
  have k0 : Keeps (fun _ => False) w w0 := by rw [hw0]; exact (Keeps.refl _ _).alloc _
  have e0 : w0.heap.size = w.heap.size + 1 := by rw [hw0]; simp
  have one := fun x : Int => ns_one (b := w.heap.size) (w := w0) (x := x) k0.size
  have two := fun x y : Int => ns_two (b := w.heap.size) (w := w0) (x := x) (y := y) k0.size
  rw [e0] at one two
  have ka := fun o => k0.alloc (w := w0) o
  rw [hw0] at one two k0 ka
  have H1 : Hid (∀ x : Int, NumSt (w.heap.size) ((w.alloc (.cells #[.int .i64 op, .int .i64 ia, .int .i64 ib, .int .i64 ic, .int .u64 n] 50)).alloc (.cells #[.int .i64 x] 3)) (.slice (some ⟨w.heap.size + 1, 0, none⟩) 1 1) [x]) := one
  have H2 : Hid (∀ x y : Int, NumSt (w.heap.size) ((w.alloc (.cells #[.int .i64 op, .int .i64 ia, .int .i64 ib, .int .i64 ic, .int .u64 n] 50)).alloc (.cells #[.int .i64 x, .int .i64 y] 3)) (.slice (some ⟨w.heap.size + 1, 0, none⟩) 2 2) [x, y]) := two
  have HK : Hid (∀ o, Keeps (fun _ => False) w ((w.alloc (.cells #[.int .i64 op, .int .i64 ia, .int .i64 ib, .int .i64 ic, .int .u64 n] 50)).alloc o)) := ka
  clear one two ka hw0 e0 w0
  by_cases h1 : op = 17
  · subst h1
    go_enter Tryd.func26, Tryd.ntmps26
    go_wp2_with fail
    go_ret
    exact ⟨_, rfl, ns_nil _ _, k0⟩
  · rw [if_neg h1]
    by_cases h2 : op = 8
    · subst h2
      go_enter Tryd.func26, Tryd.ntmps26
      go_wp2_with fail
      refine (TA _).mono ?_
      rintro e w1 ⟨rfl, rfl⟩
      go_wp2_with fail
      go_ret
      exact ⟨_, rfl, by simpa using H1.out t, HK.out _⟩
    · by_cases h3 : op = 16
      · subst h3
        go_enter Tryd.func26, Tryd.ntmps26
        go_wp2_with fail
        refine (TA _).mono ?_
        rintro e w1 ⟨rfl, rfl⟩
        go_wp2_with fail
        go_ret
        exact ⟨_, rfl, by simpa using H1.out t, HK.out _⟩
      · rw [if_neg (by omega)]
        by_cases h4 : op = 9
        · subst h4
          rw [if_pos rfl]
          by_cases h5 : t < a + 1
          · have h5i : (t : Int) < (a : Int) + 1 := by omega
            rw [if_pos h5]
            go_enter Tryd.func26, Tryd.ntmps26
            go_wp2_with fail
            refine (TA _).mono ?_
            rintro e w1 ⟨rfl, rfl⟩
            go_wp2_with fail
            go_ret
            exact ⟨_, rfl, by simpa using H2.out t (a + 1), HK.out _⟩
          · have h5i : ¬ (t : Int) < (a : Int) + 1 := by omega
            rw [if_neg h5]
            by_cases h6 : a + 1 < t
            · have h6i : (t : Int) > (a : Int) + 1 := by omega
              rw [if_pos h6]
              go_enter Tryd.func26, Tryd.ntmps26
              go_wp2_with fail
              refine (TA _).mono ?_
              rintro e w1 ⟨rfl, rfl⟩
              go_wp2_with fail
              go_ret
              exact ⟨_, rfl, by simpa using H2.out (a + 1) t, HK.out _⟩
            · have h6i : ¬ (t : Int) > (a : Int) + 1 := by omega
              rw [if_neg h6]
              go_enter Tryd.func26, Tryd.ntmps26
              go_wp2_with fail
              refine (TA _).mono ?_
              rintro e w1 ⟨rfl, rfl⟩
              go_wp2_with fail
              go_ret
              exact ⟨_, rfl, by simpa using H1.out (a + 1), HK.out _⟩
        · rw [if_neg h4]
          go_enter Tryd.func26, Tryd.ntmps26
          go_wp2_with fail
          go_ret
          exact ⟨_, rfl, by simpa using H1.out (a + 1), HK.out _⟩

/-- What pass answers: of the points so far, and those behind. -/
def PsPost (p : List I5) (f a : Nat) (s : Bool) (L : List (Nat × Bool)) (w : World) (e : Ending) (w' : World) : Prop := ∃ (t : Bool) (L' : List (Nat × Bool)), e = .returned (.bool t) ∧ Way p L' ∧ (∀ x ∈ L, x ∈ L') ∧ Fn3 w' f p.length (fun a s => decide ((a, s) ∈ L')) ∧ Keeps (fun q => q = f) w w' ∧
  (t = false → L' = L ∧ ∀ b ∈ folL (at5 p a) a, b < p.length → (b, sideB (at5 p a).op s) ∈ L) ∧ (t = true → L.length < L'.length)

set_option maxRecDepth 100000 in
set_option maxHeartbeats 4000000 in
theorem pass_any (v : Value) (p : List I5) (f a : Nat) (s : Bool) (L : List (Nat × Bool)) (w : World) (h : ∀ X, Keeps (fun q => q = f) w X → InsAt X v p) (hp : 0 < p.length) (hw : Way p L) (ha : (a, s) ∈ L) (hF : Fn3 w f p.length (fun a s => decide ((a, s) ∈ L))) :
    Calls Tryd.prog 49 #[v, .slice (some ⟨f, 0, none⟩) p.length p.length, .int .i64 a, .int .i64 (sideN s + 1)] w (PsPost p f a s L w) := by
  have HH : Hid (∀ X, Keeps (fun q => q = f) w X → InsAt X v p) := h
  have hlt := hw.lt hp _ ha
  dsimp only at hlt
  have I0 := h w (Keeps.refl _ _)
  have RF := rfollow2_any v p a w I0 hlt
  have hai : (a : Int) < p.length := by omega
  have lf := hF.lt
  obtain ⟨⟨av, cap, rfl, -⟩, -, -⟩ := I0
  clear h
  go_enter Tryd.func49, Tryd.ntmps49
  go_wp2_with fail
  refine RF.mono ?_
  rintro e w1 ⟨u, rfl, hN, k1⟩
  obtain ⟨⟨av', cap', hv, hc⟩, -, -⟩ := HH.out w1 (k1.mono fun _ _ f => f.elim)
  cases hv
  obtain ⟨pg, po, rfl, d0, d1, d2, d3, d4⟩ := hc a hlt
  have h5 : p[a]'hlt = at5 p a := by simp [at5, hlt]
  rw [h5] at d0 d1 d2 d3 d4
  have BA := rbehind_any (at5 p a) s
  generalize hFF : folL (at5 p a) a = F at *
  have F2 : F.length ≤ 2 := hFF ▸ folL_len _ _
  have HP5 : Hid (∀ b ∈ F, b < p.length → ∀ L' : List (Nat × Bool), Way p L' → (a, s) ∈ L' → (b, sideB (at5 p a).op s) ∉ L' → Way p (L' ++ [(b, sideB (at5 p a).op s)])) := fun b hb hbl L' hw' ha' hn => hw'.push hp ha' (hFF ▸ hb) hbl hn
  have HPP : Hid (∀ e w', (∃ (t : Bool) (L' : List (Nat × Bool)), e = .returned (.bool t) ∧ Way p L' ∧ (∀ x ∈ L, x ∈ L') ∧ Fn3 w' f p.length (fun a s => decide ((a, s) ∈ L')) ∧ Keeps (fun q => q = f) w w' ∧ (t = false → L' = L ∧ ∀ b ∈ F, b < p.length → (b, sideB (at5 p a).op s) ∈ L) ∧ (t = true → L.length < L'.length)) → PsPost p f a s L w e w') := fun e w' hx => by
    unfold PsPost; rw [hFF]; exact hx
  generalize hi5 : at5 p a = i5 at *
  obtain ⟨op, ia, ib, ic, n⟩ := i5
  dsimp only at d0 d1 d2 d3 d4 BA HP5 HPP
  generalize sideB op s = t at *
  clear hc h5 RF hFF hi5
  go_wp2_with fail
  refine (BA _).mono ?_
  rintro e w2 ⟨rfl, k2⟩
  have k12 := k1.trans k2
  have hN2 : NumSt w.heap.size w2 u (F.map fun (n : Nat) => (n : Int)) := fun X k => hN X ((k2.mono fun _ _ f => f.elim).trans ⟨k.os, k.tape, k.output, k.size, fun q hq hs => k.block q hq hs⟩)
  have hF2 := hF.keeps k12 (fun f => f)
  have K2 : Keeps (fun q => q = f) w w2 := k12.mono fun _ _ f => f.elim
  obtain ⟨ua, uc, hu, -⟩ := hN2 w2 (Keeps.refl _ _)
  rw [List.length_map] at hu
  subst hu
  clear hF hN k1 k2 BA d0 d1 d2 d3 d4 k12
  go_wp2_with fail
  go_loopw [11, 12] (fun x m wr => ∃ (k : Nat) (b : Bool) (L' : List (Nat × Bool)), x = .bool b ∧ m = .int .i64 k ∧ k ≤ F.length ∧ Hid (Way p L' ∧ (∀ x ∈ L, x ∈ L') ∧ Fn3 wr f p.length (fun a s => decide ((a, s) ∈ L')) ∧ Keeps (fun q => q = f) w wr ∧ NumSt w.heap.size wr (.slice ua F.length uc) (F.map fun (n : Nat) => (n : Int)) ∧ (b = false → L' = L ∧ ∀ b ∈ F.take k, b < p.length → (b, t) ∈ L) ∧ (b = true → L.length < L'.length))) (fun _ m _ => F.length - (intOf m).toNat)
  case atStart => exact ⟨0, false, L, rfl, rfl, Nat.zero_le _, ⟨hw, fun x hx => hx, hF2, K2, hN2, fun _ => ⟨rfl, fun b hb => by simp at hb⟩, fun h => by cases h⟩⟩
  case round =>
    clear hF2 K2 hN2
    obtain ⟨k, b, L', rfl, rfl, hk, hh⟩ := hrel
    obtain ⟨hW, hS, hF, hK, hN, hb0, hb1⟩ := hh.out
    by_cases hklt : k < F.length
    · have hki : (k : Int) < F.length := by omega
      obtain ⟨ua', uc', hu, hc⟩ := hN wr (Keeps.refl _ _)
      rw [List.length_map] at hu
      cases hu
      obtain ⟨ug, uo, rfl, x0⟩ := hc k (by simpa using hklt)
      simp only [List.getElem_map] at x0
      have hbF := List.getElem_mem hklt
      have hTk := List.take_succ_eq_append_getElem hklt
      generalize F[k]'hklt = y at *
      by_cases hyn : y < p.length
      · have hyi : (y : Int) < p.length := by omega
        have cf := hF.cell1 hyn t
        by_cases hm : (y, t) ∈ L'
        · rw [decide_eq_true hm] at cf
          have HR : Hid (Way p L' ∧ (∀ x ∈ L, x ∈ L') ∧ Fn3 wr f p.length (fun a s => decide ((a, s) ∈ L')) ∧ Keeps (fun q => q = f) w wr ∧ NumSt w.heap.size wr (.slice (some ⟨ug, uo, none⟩) F.length uc) (F.map fun (n : Nat) => (n : Int)) ∧ (b = false → L' = L ∧ ∀ b ∈ F.take (k + 1), b < p.length → (b, t) ∈ L) ∧ (b = true → L.length < L'.length)) := ⟨hW, hS, hF, hK, hN, fun e => ⟨(hb0 e).1, fun c hc hcl => by
            rw [hTk] at hc
            rcases List.mem_append.1 hc with hc | hc
            · exact (hb0 e).2 c hc hcl
            · simp at hc; subst hc; rw [← (hb0 e).1]; exact hm⟩, hb1⟩
          clear hh hW hS hF hK hN hb0 hb1 hc hTk
          cases t
          · simp only [Bool.toNat_false, Nat.zero_add] at cf
            rw [show sideN false + 1 = 1 from rfl]
            go_wp2_with fail
            go_roundw
            · exact ⟨k + 1, b, L', rfl, by simp, by omega, HR.out⟩
            · simp [intOf]; omega
          · simp only [Bool.toNat_true, Nat.reduceAdd] at cf
            rw [show sideN true + 1 = 2 from rfl]
            go_wp2_with fail
            go_roundw
            · exact ⟨k + 1, b, L', rfl, by simp, by omega, HR.out⟩
            · simp [intOf]; omega
        · rw [decide_eq_false hm] at cf
          have fz := hF.frozen (y * 3 + (t.toNat + 1))
          have FM := hF.mark t hyn
          rw [markR_mem] at FM
          have hW' := HP5.out y hbF hyn L' hW (hS _ ha) hm
          have kM := (Keeps.refl (fun q => q = f) wr).setCell (p := ⟨f, y * 3 + (t.toNat + 1), none⟩) (.inr rfl) (.bool true)
          have HR : Hid (Way p (L' ++ [(y, t)]) ∧ (∀ x ∈ L, x ∈ L' ++ [(y, t)]) ∧ Fn3 (wr.setCell ⟨f, y * 3 + (t.toNat + 1), none⟩ (.bool true)) f p.length (fun a s => decide ((a, s) ∈ L' ++ [(y, t)])) ∧ Keeps (fun q => q = f) w (wr.setCell ⟨f, y * 3 + (t.toNat + 1), none⟩ (.bool true)) ∧ NumSt w.heap.size (wr.setCell ⟨f, y * 3 + (t.toNat + 1), none⟩ (.bool true)) (.slice (some ⟨ug, uo, none⟩) F.length uc) (F.map fun (n : Nat) => (n : Int)) ∧ (true = false → L' ++ [(y, t)] = L ∧ ∀ b ∈ F.take (k + 1), b < p.length → (b, t) ∈ L) ∧ (true = true → L.length < (L' ++ [(y, t)]).length)) :=
            ⟨hW', fun x hx => List.mem_append_left _ (hS x hx), FM, hK.trans kM, fun X kX => hN X ((kM.mono fun q _ e => by rw [e]; exact lf).trans kX), (fun e => by cases e), fun _ => by
              have : L.length ≤ L'.length := by
                rcases b with _ | _
                · rw [(hb0 rfl).1]; exact Nat.le_refl _
                · have := hb1 rfl; omega
              simp; omega⟩
          clear hh hW hS hF hK hN hb0 hb1 hc hTk hW' FM kM
          cases t
          · simp only [Bool.toNat_false, Nat.zero_add] at cf fz HR
            rw [show sideN false + 1 = 1 from rfl]
            go_wp2_with fail
            go_roundw
            · obtain ⟨z1, z2, z3, z4, z5, z6, z7⟩ := HR.out
              exact ⟨k + 1, true, _, rfl, by simp, by omega, ⟨z1, z2, z3, z4, z5, z6, fun _ => z7 trivial⟩⟩
            · simp [intOf]; omega
          · simp only [Bool.toNat_true, Nat.reduceAdd] at cf fz HR
            rw [show sideN true + 1 = 2 from rfl]
            go_wp2_with fail
            go_roundw
            · obtain ⟨z1, z2, z3, z4, z5, z6, z7⟩ := HR.out
              exact ⟨k + 1, true, _, rfl, by simp, by omega, ⟨z1, z2, z3, z4, z5, z6, fun _ => z7 trivial⟩⟩
            · simp [intOf]; omega
      · have hyi : ¬ (y : Int) < p.length := by omega
        have HR : Hid (Way p L' ∧ (∀ x ∈ L, x ∈ L') ∧ Fn3 wr f p.length (fun a s => decide ((a, s) ∈ L')) ∧ Keeps (fun q => q = f) w wr ∧ NumSt w.heap.size wr (.slice (some ⟨ug, uo, none⟩) F.length uc) (F.map fun (n : Nat) => (n : Int)) ∧ (b = false → L' = L ∧ ∀ b ∈ F.take (k + 1), b < p.length → (b, t) ∈ L) ∧ (b = true → L.length < L'.length)) := ⟨hW, hS, hF, hK, hN, fun e => ⟨(hb0 e).1, fun c hc hcl => by
          rw [hTk] at hc
          rcases List.mem_append.1 hc with hc | hc
          · exact (hb0 e).2 c hc hcl
          · simp at hc; omega⟩, hb1⟩
        clear hh hW hS hF hK hN hb0 hb1 hc hTk
        go_wp2_with fail
        go_roundw
        · exact ⟨k + 1, b, L', rfl, by simp, by omega, HR.out⟩
        · simp [intOf]; omega
    · have hki : ¬ (k : Int) < F.length := by omega
      obtain rfl : k = F.length := by omega
      rw [List.take_length] at hb0
      clear hh
      go_wp2_with fail
      go_ret
      exact HPP.out _ _ ⟨b, L', rfl, hW, hS, hF, hK, hb0, hb1⟩
end Go.Proofs.YtljapgoeomedkaaDoor
