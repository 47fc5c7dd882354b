
/- A room with two lists (layer 21): what stands in it, what is left of it, how it begins; looks and left walked. No statement of the seat is proved here. -/
import Derived.Test.YtmnbilhblkobdaaLyU
import Derived.Test.YtmnbilhblkobdaaLeG
import Derived.Test.YtmnbilhblkobdaaLiDf
import Derived.Test.YtmnbilhblkobdaaLiH
namespace Go.Proofs.Ytmnbilhblkobdaa
open Go.RowKit

section
variable {s : Wd} {n l l' : Nat} {N N' A B : List (Nat × Int)} {F : List Nat} {key : Int}
theorem stands_at {W : List Int} (h : Rm2 W n l N l' N' F) : stands W l = (N.map Prod.snd, true) := by
  have hf : (⟨W, 0, 0, -1, 0⟩ : Wd).f < 0 := by show (-1 : Int) < 0; decide
  obtain ⟨s1, l1, e1⟩ := keys_at (s := ⟨W, 0, 0, -1, 0⟩) h hf
  have q := keys_stands (s := ⟨W, 0, 0, -1, 0⟩) h.ws hf l
  rw [e1] at q
  cases e : (stands W l).2 with
  | true =>
    have z := q.1 e
    simp only [Prod.mk.injEq] at z
    exact Prod.ext z.1.symm e
  | false =>
    have z := (q.2 e).2
    rcases z with z | z <;> simp at z
theorem free_at (h : Rm2 s.W n l N l' N' F) (hf : s.f < 0) : ∃ s1, s.lft 0 = (((n : Int) - oat s.W 0, 0), s1) ∧ Lkd s s1 := by
  have hl := h.len
  have h40 := h.n40
  have h200 := h.n200
  have hw0 := h.w0
  have hw0n := h.w0n
  obtain ⟨s2, e2, l2⟩ := get_at (s := s) (a := 0) hf (by omega)
  have hf2 : s2.f < 0 := by rw [l2.2.1]; exact hf
  obtain ⟨s3, e3, l3⟩ := get_at (s := s2) (a := 1) hf2 (by rw [l2.1]; omega)
  rw [l2.1, h.w1] at e3
  have e2' : s.get 0 = ((oat s.W 0, 0), s2) := e2
  refine ⟨s3, ?_, l2.trans l3⟩
  unfold Wd.lft Wd.free
  rw [en0]
  simp only [e2', e3, ne_eq, not_true_eq_false, if_false]
  by_cases q : oat s.W 0 < (n : Int)
  · rw [if_pos q, uw_id ⟨by omega, by omega⟩]
  · rw [if_neg q, show (n : Int) - oat s.W 0 = 0 by omega]
theorem go_at (n : Nat) : ∀ (F : List Nat) (m : Nat) (out : List Int) (x : Int) (s : Wd), s.f < 0 → s.W.length = n → n ≤ 200 → fch s.W x F → (∀ a ∈ F, a < n) → F.length ≤ m → out.length + F.length < 60000 → ∃ s', Gv.go m ⟨out, x, 0, s⟩ = ⟨out ++ F.map (fun (a : Nat) => (a : Int)), 0, 0, s'⟩ ∧ Lkd s s'
  | [], m, out, x, s, hf, hl, hn, hc, ha, hm, ho => by
    have hx : x = 0 := hc
    subst hx
    refine ⟨s, ?_, Lkd.rfl s⟩
    rw [Gv.go_stop (fun q => q.2.1 rfl)]
    simp
  | a :: F, m, out, x, s, hf, hl, hn, hc, ha, hm, ho => by
    obtain ⟨m, rfl⟩ : ∃ k, m = k + 1 := ⟨m - 1, by simp at hm; omega⟩
    have hx : x = (a : Int) + 1 := hc.1
    have han := ha a (by simp)
    obtain ⟨s1, e1, l1⟩ := get_at (s := s) (a := a) hf (by omega)
    have e : uw ((a : Int) + 1 - 1) = a := by rw [show (a : Int) + 1 - 1 = a by omega]; exact uw_id (nat_isW (by omega))
    have hon : Gv.on ⟨out, x, 0, s⟩ := by
      refine ⟨rfl, by show x ≠ 0; omega, by show out.length ≠ 65536; omega⟩
    rw [Gv.go_next hon]
    have hst : Gv.step ⟨out, x, 0, s⟩ = ⟨out ++ [(a : Int)], oat s.W a, 0, s1⟩ := by
      unfold Gv.step
      simp only [hx, e, e1]
    rw [hst]
    obtain ⟨s2, e2, l2⟩ := go_at n F m (out ++ [(a : Int)]) (oat s.W a) s1 (by rw [l1.2.1]; exact hf) (by rw [l1.1]; exact hl) hn (by rw [l1.1]; exact hc.2) (fun b hb => ha b (by simp [hb])) (by simp at hm; omega) (by simp at ho ⊢; omega)
    exact ⟨s2, by rw [e2]; simp, l1.trans l2⟩
theorem given_at (h : Rm2 s.W n l N l' N' F) (hf : s.f < 0) : ∃ s1, s.given 0 2 = ((F.map (fun (a : Nat) => (a : Int)), 0), s1) ∧ Lkd s s1 := by
  have hl := h.len
  have h40 := h.n40
  have h200 := h.n200
  have hin := h.inb
  have hF : F.length ≤ 200 := by
    have q := h.w0
    have q2 := h.w0n
    have e : (pcs l N l' N' F).length = N.length + N'.length + 2 + F.length := by unfold pcs; simp; omega
    omega
  obtain ⟨s1, e1, l1⟩ := get_at (s := s) (a := 3) hf (by omega)
  obtain ⟨s2, e2, l2⟩ := go_at n F 65536 [] (oat s.W 3) s1 (by rw [l1.2.1]; exact hf) (by rw [l1.1]; exact hl) h200 (by rw [l1.1]; exact h.fr) (fun a ha => by have := hin.2.2.2 a ha; omega) (by omega) (by simp; omega)
  refine ⟨s2, ?_, l1.trans l2⟩
  have m2 : ¬ ¬ mayN 2 := fun q => q may2
  unfold Wd.given
  rw [if_neg m2, hd2]
  simp only [e1, e2]
  unfold Gv.fin
  simp
theorem Rm2.room (h : Rm2 s.W n l N l' N' F) : (n : Int) - oat s.W 0 + 2 * (F.length : Int) = (n : Int) - 22 - 2 * ((N.length + N'.length : Nat) : Int) := by
  have q := h.w0
  have e : (pcs l N l' N' F).length = N.length + N'.length + 2 + F.length := by unfold pcs; simp; omega
  rw [e] at q
  omega
end
def begW (m : Nat) : Bool := decide ((B3 m).W = 22 :: (m : Int) :: List.replicate (m - 2) 0)
theorem begw_all : (List.range 161).all (fun j => begW (40 + j)) = true := by kernel_rfl
theorem beg_rm {m : Nat} (h1 : 40 ≤ m) (h2 : m ≤ 200) : Rm2 (B3 m).W m 18 [] 20 [] [] := by
  have q := List.all_eq_true.1 begw_all (m - 40) (List.mem_range.2 (by omega))
  rw [show 40 + (m - 40) = m by omega] at q
  unfold begW at q
  rw [decide_eq_true_eq] at q
  rw [q]
  have e : ∀ c, oat (22 :: (m : Int) :: List.replicate (m - 2) 0) (c + 2) = 0 := by
    intro c
    unfold oat
    simp only [List.getElem?_cons_succ]
    rw [List.getElem?_replicate]
    split <;> rfl
  have hp : pcs 18 [] 20 [] [] = [18, 20] := rfl
  refine ⟨by simp; omega, h1, h2, ?_, rfl, rfl, ?_, ?_, ?_, ⟨e 16, e 17, List.Pairwise.nil, fun p hp => by cases hp⟩, ⟨e 18, e 19, List.Pairwise.nil, fun p hp => by cases hp⟩, e 1⟩
  · intro x hx
    simp only [List.mem_cons] at hx
    rcases hx with rfl | rfl | hx
    · exact ⟨by omega, by omega⟩
    · exact ⟨by omega, by omega⟩
    · rw [List.eq_of_mem_replicate hx]; exact zero_isW
  · show (22 : Int) ≤ m; omega
  · rw [hp]; decide
  · rw [hp]
    intro a ha
    have : oat (22 :: (m : Int) :: List.replicate (m - 2) 0) 0 = 22 := rfl
    rw [this]
    simp only [List.mem_cons, List.not_mem_nil, or_false] at ha
    rcases ha with rfl | rfl <;> exact ⟨by decide, by decide, by decide⟩
theorem lft_r {b g c : Nat} {s : Wd} {a x e1 : Int} {s1 : Wd} (heq : Hid (s.lft a = ((x, e1), s1))) (ha : isW a) {w : World} (h : WdAt w b g c s) :
    Calls Try.prog 31 #[.iface 24 (.pointer (some ⟨b, 0, none⟩)), .int .u64 a] w fun e w' => e = .returned (.tuple #[.int .u64 x, .int .i64 e1]) ∧ WdAt w' b g c s1 ∧ Keeps (two b g) w w' := by
  have q := left_any b g c s a ha w h
  rw [heq.out] at q
  exact q
theorem given_r {b g c : Nat} {s : Wd} {a n e1 : Int} {L : List Int} {s1 : Wd} (heq : Hid (s.given a n = ((L, e1), s1))) {w : World} (h : WdAt w b g c s) :
    Calls Try.prog 32 #[.iface 24 (.pointer (some ⟨b, 0, none⟩)), .int .u64 a, .int .u64 n] w fun e w' => ∃ v, e = .returned (.tuple #[v, .int .i64 e1]) ∧ Wr w' w.heap.size v L ∧ WdAt w' b g c s1 ∧ Keeps (two b g) w w' := by
  have q := given_any b g c s a n w h
  rw [heq.out] at q
  exact q
def lkB (k : Int) : Bool := decide (k < 1) || (decide (3 ≤ k) && decide (k ≤ 7)) || decide (9 < k)
set_option maxHeartbeats 1000000 in
theorem looks_any (k : Int) (w : World) : Calls Try.prog 10 #[.int .i64 k] w fun e w' => e = .returned (.bool (lkB k)) ∧ w' = w := by
  unfold lkB
  by_cases h1 : k < 1
  · go_enter Try.func10, Try.ntmps10
    go_wp2_with fail
    go_ret
    exact ⟨by simp [h1], rfl⟩
  · by_cases h2 : 3 ≤ k
    · by_cases h3 : k ≤ 7
      · go_enter Try.func10, Try.ntmps10
        go_wp2_with fail
        go_ret
        exact ⟨by simp, rfl⟩
      · go_enter Try.func10, Try.ntmps10
        go_wp2_with fail
        go_ret
        exact ⟨by simp; omega, rfl⟩
    · go_enter Try.func10, Try.ntmps10
      go_wp2_with fail
      go_ret
      exact ⟨by simp; omega, rfl⟩
set_option maxRecDepth 100000 in
set_option maxHeartbeats 2000000 in
theorem lefts_any (b g c n l l' : Nat) (s : Wd) (N N' : List (Nat × Int)) (F : List Nat) (hr : Rm2 s.W n l N l' N' F) (w : World) (h : WdAt w b g c s) :
    Calls Try.prog 13 #[.pointer (some ⟨b, 0, none⟩), .int .i64 n, .int .i64 ((N.length + N'.length : Nat) : Int)] w fun e w' => e = .returned (.bool true) ∧ Keeps (fun _ => False) w w' := by
  have hf0 : (⟨s.W, 0, 0, -1, 0⟩ : Wd).f < 0 := by show (-1 : Int) < 0; decide
  obtain ⟨s1, e1, l1⟩ := free_at (s := ⟨s.W, 0, 0, -1, 0⟩) hr hf0
  obtain ⟨s2, e2, l2⟩ := given_at (s := s1) (F := F) (l := l) (l' := l') (N := N) (N' := N') (n := n) (by rw [l1.1]; exact hr) (by rw [l1.2.1]; exact hf0)
  have hroom := hr.room
  have hn4 := hr.n40
  have hn2 := hr.n200
  have hw0n := hr.w0n
  have hw0 := hr.w0
  have e0 : (⟨s.W, 0, 0, -1, 0⟩ : Wd).W = s.W := rfl
  rw [e0] at e1
  have hFl : (F.map (fun (a : Nat) => (a : Int))).length = F.length := by simp
  have hF : F.length ≤ 200 := by
    have e : (pcs l N l' N' F).length = N.length + N'.length + 2 + F.length := by unfold pcs; simp; omega
    omega
  have hN : N.length + N'.length ≤ 200 := by
    have e : (pcs l N l' N' F).length = N.length + N'.length + 2 + F.length := by unfold pcs; simp; omega
    omega
  obtain ⟨x, hx⟩ : ∃ x : Int, (n : Int) - oat s.W 0 = x := ⟨_, rfl⟩
  rw [hx] at hroom e1
  have hx0 : 0 ≤ x ∧ x ≤ 200 := by omega
  have E1 := hid e1
  have E2 := hid e2
  have HL := hid h.lies
  have HR := hid hr.ws
  have hlen : s.W.length ≤ 1000000 := by rw [hr.len]; omega
  have q0 := h.cell0
  generalize had : adr g c = ad at q0 HL
  have w0 : isW 0 := zero_isW
  generalize N.length + N'.length = K at hroom hN ⊢
  generalize F.map (fun (a : Nat) => (a : Int)) = FL at hFl E2
  have z1 : IntKind.i64.wrap x = x := by rw [IntKind.wrap_i64]; omega
  have z2 : IntKind.i64.wrap (2 * (FL.length : Int)) = 2 * (F.length : Int) := by rw [IntKind.wrap_i64]; omega
  have z3 : IntKind.i64.wrap (x + 2 * (F.length : Int)) = x + 2 * (F.length : Int) := by rw [IntKind.wrap_i64]; omega
  have z4 : IntKind.i64.wrap ((n : Int) - 18) = (n : Int) - 18 := by rw [IntKind.wrap_i64]; omega
  have z5 : IntKind.i64.wrap ((n : Int) - 18 - 4) = (n : Int) - 22 := by rw [IntKind.wrap_i64]; omega
  have z6 : IntKind.i64.wrap (2 * (K : Int)) = 2 * (K : Int) := by rw [IntKind.wrap_i64]; omega
  have z7 : IntKind.i64.wrap ((n : Int) - 22 - 2 * (K : Int)) = x + 2 * (F.length : Int) := by rw [IntKind.wrap_i64]; omega
  clear hr e1 e2 l1 l2 hroom hw0 hw0n hx h
  go_enter Try.func13, Try.ntmps13
  go_wp2_with fail
  refine (over_any _ _ HR.out hlen w HL.out).mono ?_
  rintro e_ x0 ⟨b1, g1, c1, rfl, h0, k0, lb, lg⟩
  have HK : Hid (Keeps (fun _ => False) w x0 ∧ w.heap.size ≤ b1 ∧ w.heap.size ≤ g1) := hid ⟨k0, lb, lg⟩
  have HH := hid h0
  clear h0 k0 lb lg
  go_wp2_with fail
  refine (lft_r E1 w0 HH.out).mono ?_
  rintro e_ x1 ⟨rfl, h1, k1⟩
  replace HH := hid h1
  replace HK : Hid (Keeps (fun _ => False) w x1 ∧ w.heap.size ≤ b1 ∧ w.heap.size ≤ g1) := hid ⟨HK.out.1.step k1 (fun i hi e => by have := HK.out.2; rcases e with e | e <;> omega), HK.out.2⟩
  clear h1 k1
  go_wp2_with fail
  refine (given_r E2 HH.out).mono ?_
  rintro e_ x2 ⟨v, rfl, r2, h2, k2⟩
  obtain ⟨av, cv, rfl⟩ := r2.form
  replace HK : Hid (Keeps (fun _ => False) w x2) := hid (HK.out.1.step k2 (fun i hi e => by have := HK.out.2; rcases e with e | e <;> omega))
  clear h2 k2 r2 HH
  go_wp2_with fail
  go_ret
  exact ⟨rfl, HK.out⟩
end Go.Proofs.Ytmnbilhblkobdaa
