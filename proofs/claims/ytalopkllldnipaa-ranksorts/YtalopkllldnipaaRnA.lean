
/- The document's Over and Same; the example: known (layer 24). No statement of the seat is proved here. -/
import Derived.Test.YtalopkllldnipaaRlH
import Derived.Test.YtalopkllldnipaaRkFM
namespace Go.Proofs.Ytalopkllldnipaa
open Go.RowKit

structure Hs (w : World) (b g c : Nat) (X : World) (s : Wd) : Prop where
  wd : WdAt X b g c s
  k : Keeps (two b g) w X
  lb : b < w.heap.size ∧ g < w.heap.size
section
variable {w X X' : World} {b g c q : Nat} {s s' : Wd}
theorem WdAt.drew (h : WdAt X b g c s) : WdAt X.drew b g c s := h.like rfl
theorem Hs.start (h : WdAt w b g c s) : Hs w b g c w s := ⟨h, Keeps.refl _ _, h.ltb, h.ltg⟩
theorem Hs.acc (h : Hs w b g c X s) (k : Keeps (two b g) X X') (wd : WdAt X' b g c s') : Hs w b g c X' s' := ⟨wd, h.k.trans k, h.lb⟩
theorem Hs.new (h : Hs w b g c X s) (k : Keeps (fun _ => False) X X') : Hs w b g c X' s := ⟨h.wd.kept k (fun f => f) (fun f => f), h.k.step k (fun _ _ f => f.elim), h.lb⟩
theorem Hs.own {S : Nat → Prop} (h : Hs w b g c X s) (k : Keeps S X X') (hS : ∀ i, S i → w.heap.size ≤ i) : Hs w b g c X' s := by
  have := h.lb
  exact ⟨h.wd.kept k (fun e => by have := hS _ e; omega) (fun e => by have := hS _ e; omega), h.k.step k (fun i hi e => by have := hS _ e; omega), h.lb⟩
end
theorem app_nil (w : World) (v : Value) (xs : List Int) (hr : Lies w v xs) (hb : xs.length ≤ 1000000) :
    ∃ g c w', (Builtin.append_ #[34, 34] 34 #[.slice none 0 0, v]).run Try.prog w = .ok (.slice (adr g c) xs.length c) w' ∧ Keeps (fun _ => False) w w' ∧ xs.length ≤ c ∧ Wr w' w.heap.size (.slice (adr g c) xs.length c) xs ∧ (c = 0 ∨ (w.heap.size ≤ g ∧ ∃ cur, w'.heap[g]? = some (.cells cur 25 (0, 0)) ∧ ∀ i, i < xs.length → cur[i]? = some (.int .u64 (oat xs i)))) := by
  by_cases hx : xs = []
  · subst hx
    obtain ⟨i0, hi, hz0, hz1, hz2⟩ := info_parts info_word
    obtain ⟨sp, c, rfl, hc⟩ := hr
    have hsrc : Src Try.prog i0.size 34 (.slice sp 0 c) 0 [] w := by
      cases sp with
      | none => exact Src.ofNil w (e' := 25) Try.underlying34 c
      | some a => exact Src.ofSlice w (e' := 25) Try.underlying34 a 0 c [] (by simp) (fun j u hj => by simp at hj) (by simp)
    exact ⟨0, 0, w, run_append_nothing w 34 34 34 25 i0 Try.underlying34 hi none 0 0 (Nat.le_refl _) _ hsrc, Keeps.refl _ _, by simp, Wr.nil _ _, .inl rfl⟩
  · have hl : 0 < xs.length := List.length_pos_iff.2 hx
    obtain ⟨v1, w1, r1, o1, g1⟩ := app_words w w.heap.size (.slice none 0 0) 0 [] (Wr.nil w w.heap.size) v xs hr (by omega) (Nat.le_refl _)
    have k1 : Keeps (fun _ => False) w w1 := (keeps_grown g1).mono (fun k hk e => by cases e)
    simp only [Nat.zero_add, List.nil_append] at o1
    have o2 := o1
    rcases id o1.2 with ⟨h1, h2⟩ | ⟨g, cap, cur, rfl, h1, h2, h3, _⟩
    · omega
    · have hc0 : cap ≠ 0 := by omega
      refine ⟨g, cap, w1, ?_, k1, h3, ?_, .inr ⟨h1, cur, h2, fun i hi => ?_⟩⟩
      · rw [adr_pos hc0]; exact r1
      · rw [adr_pos hc0]; exact o2
      · have q := World.ownsRow.cellAt o2 i (by omega)
        rw [cell_of_block h2] at q
        rw [q]
        simp [wordsV, oat, hi]
set_option maxRecDepth 100000 in
set_option maxHeartbeats 1000000 in
theorem over_any (v : Value) (xs : List Int) (hxs : ∀ x ∈ xs, isW x) (hl : xs.length ≤ 1000000) (w : World) (hr : Lies w v xs) :
    Calls Try.prog 19 #[v] w fun e w' => ∃ b g c, e = .returned (.pointer (some ⟨b, 0, none⟩)) ∧ WdAt w' b g c ⟨xs, 0, 0, -1, 0⟩ ∧ Keeps (fun _ => False) w w' ∧ w.heap.size ≤ b ∧ w.heap.size ≤ g := by
  obtain ⟨g, c, w1, hrun, k1, hc, _, hg⟩ := app_nil w v xs hr hl
  have HF : Hid (∃ g', WdAt (w1.alloc (.cells #[.slice (adr g c) xs.length c, .int .i64 0, .int .i64 0, .int .i64 (-1), .int .i64 0] 37)) w1.heap.size g' c ⟨xs, 0, 0, -1, 0⟩ ∧ w.heap.size ≤ g') := by
    have hsz := k1.size
    rcases hg with h0 | ⟨h1, cur, h2, h3⟩
    · subst h0
      exact hid ⟨w1.heap.size, ⟨alloc_block w1 _, .inl ⟨rfl, rfl⟩, hc, hxs, hl⟩, hsz⟩
    · have hlt := lt_of_block h2
      exact hid ⟨g, ⟨alloc_block w1 _, .inr ⟨by omega, cur, ((keeps_new w1 _).block g hlt (fun f => f)).trans h2, h3⟩, hc, hxs, hl⟩, h1⟩
  have HR := hid hrun
  have HK := hid k1
  obtain ⟨ad, had⟩ : ∃ ad, adr g c = ad := ⟨_, rfl⟩
  rw [had] at HF HR
  obtain ⟨sa, sc, rfl, _⟩ := hr
  clear hrun k1 hg hc had
  go_enter Try.func19, Try.ntmps19
  go_wp2_with (at_builtin; refine wpList_append_run rfl _ _ 34 rfl rfl rfl HR.out ?_; clear HR)
  go_ret
  obtain ⟨g', h1, h2⟩ := HF.out
  exact ⟨_, g', c, rfl, h1, HK.out.alloc _, HK.out.size, h2⟩
set_option maxHeartbeats 1000000 in
theorem words_same (va vb : Value) (l : List Int) (hl : l.length ≤ 17592186044416) (w : World) (ha : Lies w va l) (hb : Lies w vb l) :
    Calls Try.prog 15 #[va, vb] w fun e w' => e = .returned (.bool true) ∧ ∃ m, w' = w.drewN m := by
  obtain ⟨aa, ca, rfl, ha⟩ := ha
  obtain ⟨ab, cb, rfl, hb⟩ := hb
  have HA := hid ha
  have HB := hid hb
  clear ha hb
  go_enter Try.func15, Try.ntmps15
  go_wp2_with fail
  go_loopw [5] (fun i wr => ∃ k : Nat, k ≤ l.length ∧ i = .int .i64 k ∧ ∃ m, wr = w.drewN m) (fun i _ => l.length - (intOf i).toNat)
  case atStart => exact ⟨0, by omega, rfl, 0, rfl⟩
  case round =>
    obtain ⟨k, hk, rfl, mm, rfl⟩ := hrel
    by_cases hlt : k < l.length
    · obtain ⟨g, off, rfl, d1⟩ := HA.out k hlt
      obtain ⟨g', off', rfl, d2⟩ := HB.out k hlt
      clear HA HB
      go_wp2_with fail
      go_quiet (fail)
      go_wp2_with fail
      go_roundw
      case rel => exact ⟨k + 1, by omega, by go_num, _, rfl⟩
      case measure => simp [intOf]; omega
    · obtain rfl : k = l.length := by omega
      clear HA HB
      go_wp2_with fail
      go_ret
      exact ⟨rfl, _, rfl⟩

theorem run_made (n : Nat) (hn : n ≤ 35184372088832) (w : World) : (Instr.makeSlice 34 (.int .i64 n) (.int .i64 n)).run Try.prog w =
    .ok (.slice (some ⟨w.heap.size, 0, none⟩) n n) (w.alloc (.cells (madeCells #[.int .u64 0] n) 25)) := by
  obtain ⟨i0, hi, hz0, hz1, hz2⟩ := info_parts info_word
  have h := run_make (P := Try.prog) w 34 25 i0 _ Try.underlying34 hi hz0 .i64 .i64 n n (by omega) (by omega) (by rw [hz2]; omega) (by omega)
  rw [h, hz1, Int.toNat_natCast, Nat.mul_one]
  rfl
theorem lies_made (w : World) (n : Nat) : Lies (w.alloc (.cells (madeCells #[.int .u64 0] n) 25)) (.slice (some ⟨w.heap.size, 0, none⟩) n n) (List.replicate n 0) := by
  refine ⟨_, n, by simp, fun i hi => ⟨w.heap.size, 0, rfl, ?_⟩⟩
  rw [Nat.zero_add, cell_of_block (alloc_block w _)]
  have q := u64s_get (List.replicate n 0) i hi
  rw [← madeCells_u64] at q
  exact q
theorem rep_isW (n : Nat) : ∀ x ∈ List.replicate n (0 : Int), isW x := fun x hx => by rw [List.eq_of_mem_replicate hx]; exact zero_isW
theorem lay_r {b g c : Nat} {s : Wd} {a p q e1 : Int} {s1 : Wd} (heq : Hid (s.lay a p q = (e1, s1))) (ha : isW a) (hp : isW p) (hq : isW q) {w : World} (h : WdAt w b g c s) :
    Calls Try.prog 32 #[.iface 24 (.pointer (some ⟨b, 0, none⟩)), .int .u64 a, .int .u64 p, .int .u64 q] w fun e w' => e = .returned (.int .i64 e1) ∧ WdAt w' b g c s1 ∧ Keeps (two b g) w w' := by
  have q := lay_any b g c s a p q ha hp hq w h
  rw [heq.out] at q
  exact q
theorem lit_isW (n : Nat) (h : n < 18446744073709551616) : isW (n : Int) := ⟨by omega, by omega⟩

def S0 : Wd := ⟨List.replicate 80 0, 0, 0, -1, 0⟩
def S1 : Wd := (S0.lay 0 18 80).2
def S2 : Wd := (S1.rnew 0).2
def S3 : Wd := (S2.rpush 0 18 (ofR 4612811918334230528) 7).2
def S4 : Wd := (S3.rpush 0 18 (ofR 13830554455654793216) 8).2
def S5 : Wd := (S4.rpush 0 18 (ofR 4612811918334230528) 3).2
def S6 : Wd := (S5.rall 18).2
theorem ex1 : S0.lay 0 18 80 = (0, S1) := by kernel_rfl
theorem ex2 : S1.rnew 0 = ((18, 0), S2) := by kernel_rfl
theorem ex3 : S2.rpush 0 18 (ofR 4612811918334230528) 7 = (((), 0), S3) := by kernel_rfl
theorem ex4 : S3.rpush 0 18 (ofR 13830554455654793216) 8 = (((), 0), S4) := by kernel_rfl
theorem ex5 : S4.rpush 0 18 (ofR 4612811918334230528) 3 = (((), 0), S5) := by kernel_rfl
theorem ex6 : S5.rall 18 = (([(ofR 13830554455654793216, 8), (ofR 4612811918334230528, 3), (ofR 4612811918334230528, 7)], 0), S6) := by kernel_rfl
theorem run_eqD (d a b : Nat) (w : World) : (Op.equalIn (d + 1) 38 (.float .f64 a) (.float .f64 b)).run Try.prog w = .ok (FloatKind.f64.format.order a b == some Ordering.eq) w := by
  simp [Op.equalIn, run_underlying Try.underlying38]
  rfl
@[go_sem] theorem run_eqF (a b : Nat) (w : World) : (Op.equalIn 9999 38 (.float .f64 a) (.float .f64 b)).run Try.prog w = .ok (FloatKind.f64.format.order a b == some Ordering.eq) w := by
  exact run_eqD 9998 a b w
theorem ordA : (FloatKind.f64.format.order 13830554455654793216 13830554455654793216 == some Ordering.eq) = true := by kernel_rfl
theorem ordB : (FloatKind.f64.format.order 4612811918334230528 4612811918334230528 == some Ordering.eq) = true := by kernel_rfl
set_option maxRecDepth 100000 in
set_option maxHeartbeats 4000000 in
theorem known_any (w : World) : Calls Try.prog 10 #[] w fun e w' => e = .returned (.bool true) ∧ Keeps (fun _ => False) w w' := by
  have hmk : ∀ w : World, (Instr.makeSlice 34 (.int .i64 80) (.int .i64 80)).run Try.prog w = .ok (.slice (some ⟨w.heap.size, 0, none⟩) 80 80) (w.alloc (.cells (madeCells #[.int .u64 0] 80) 25)) := run_made 80 (by omega)
  have E1 := hid ex1
  have E2 := hid ex2
  have E3 := hid ex3
  have E4 := hid ex4
  have E5 := hid ex5
  have E6 := hid ex6
  have w0 : isW 0 := zero_isW
  have w18 : isW 18 := lit_isW 18 (by omega)
  have w80 : isW 80 := lit_isW 80 (by omega)
  have w7 : isW 7 := lit_isW 7 (by omega)
  have w8 : isW 8 := lit_isW 8 (by omega)
  have w3 : isW 3 := lit_isW 3 (by omega)
  go_enter Try.func10, Try.ntmps10
  go_wp2_with fail
  have hl80 : (List.replicate 80 (0 : Int)).length ≤ 1000000 := by rw [List.length_replicate]; omega
  refine (over_any _ _ (rep_isW 80) hl80 _ (lies_made w 80)).mono ?_
  rintro e_ x0 ⟨b, g, c, rfl, h0, k0, lb, lg⟩
  have HH : Hid (Hs x0 b g c x0 S0) := hid (Hs.start h0)
  have HL : Hid (Keeps (fun _ => False) w x0 ∧ w.heap.size ≤ b ∧ w.heap.size ≤ g) := by
    have q : (w.alloc (.cells (madeCells #[.int .u64 0] 80) 25)).heap.size = w.heap.size + 1 := by simp
    rw [q] at lb lg
    exact hid ⟨(keeps_new w _).trans k0, by omega, by omega⟩
  clear h0 k0 lb lg hmk
  go_wp2_with fail
  have hh := HH.out
  refine (lay_r E1 w0 w18 w80 hh.wd).mono ?_
  rintro e_ x1 ⟨rfl, h1, k1⟩
  replace HH := hid (hh.acc k1 h1)
  clear hh h1 k1 E1
  go_wp2_with fail
  have hh := HH.out
  refine (new_any E2 w0 hh.wd).mono ?_
  rintro e_ x2 ⟨rfl, h2, k2⟩
  replace HH := hid (hh.acc k2 h2)
  clear hh h2 k2 E2
  go_wp2_with fail
  have hh := HH.out
  refine (push_any E3 w0 w18 w7 (by decide) hh.wd).mono ?_
  rintro e_ x3 ⟨rfl, h3, k3⟩
  replace HH := hid (hh.acc k3 h3)
  clear hh h3 k3 E3
  go_wp2_with fail
  have hh := HH.out
  refine (push_any E4 w0 w18 w8 (by decide) hh.wd).mono ?_
  rintro e_ x4 ⟨rfl, h4, k4⟩
  replace HH := hid (hh.acc k4 h4)
  clear hh h4 k4 E4
  go_wp2_with fail
  have hh := HH.out
  refine (push_any E5 w0 w18 w3 (by decide) hh.wd).mono ?_
  rintro e_ x5 ⟨rfl, h5, k5⟩
  replace HH := hid (hh.acc k5 h5)
  clear hh h5 k5 E5
  go_wp2_with fail
  have hh := HH.out
  refine (all_any E6 w18 hh.wd).mono ?_
  rintro e_ x6 ⟨v, rfl, r6, h6, k6⟩
  have HK : Hid (Keeps (fun _ => False) w x6) := by
    have q := (hh.acc k6 h6).k
    have h1 := HL.out
    exact hid (h1.1.step q (fun i hi e => by rcases e with e | e <;> omega))
  obtain ⟨gv, cap, cur, rfl, hbg, hgb, hcs⟩ : ∃ g cap cur, v = .slice (some ⟨g, 0, none⟩) 3 cap ∧ x5.heap.size ≤ g ∧ x6.heap[g]? = some (.cells cur 40 (0, 0)) ∧ ∀ j u, ([.float .f64 13830554455654793216, .int .u64 8, .float .f64 4612811918334230528, .int .u64 3, .float .f64 4612811918334230528, .int .u64 7] : List Value)[j]? = some u → x6.cell? ⟨g, j, none⟩ = some u := by
    rcases id r6.2 with ⟨_, q⟩ | ⟨g, cap, cur, hv, q1, q2, _⟩
    · simp at q
    · refine ⟨g, cap, cur, hv, q1, q2, fun j u hu => ?_⟩
      have hj : j < 6 := (List.getElem?_eq_some_iff.1 hu).1
      unfold Er at r6
      rw [hv] at r6
      have q := World.ownsRow.cellAt r6 j hj
      have e : ([(ofR 13830554455654793216, 8), (ofR 4612811918334230528, 3), (ofR 4612811918334230528, 7)] : List (Int × Int)).flatMap entC = [.float .f64 13830554455654793216, .int .u64 8, .float .f64 4612811918334230528, .int .u64 3, .float .f64 4612811918334230528, .int .u64 7] := by kernel_rfl
      rw [q, e]
      exact hu
  have c0 := hcs 0 _ rfl
  have c1 := hcs 1 _ rfl
  have c2 := hcs 2 _ rfl
  have c3 := hcs 3 _ rfl
  have c4 := hcs 4 _ rfl
  have c5 := hcs 5 _ rfl
  clear hh h6 k6 r6 E6 HH hcs hgb hbg HL
  have oA := ordA
  have oB := ordB
  go_wp2_with fail
  go_ret
  exact ⟨rfl, HK.out⟩
end Go.Proofs.Ytalopkllldnipaa
