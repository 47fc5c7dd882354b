
/- The law ListWild, walked (layer 21). No statement of the seat is proved here. -/
import Derived.Test.YtbdekpccddmehaaLwB
namespace Go.Proofs.Ytbdekpccddmehaa
open Go.RowKit

theorem neg1 : (-1 : Int) < 0 := by decide
theorem Keeps.none {a x y : World} {b g : Nat} (h : Keeps (fun _ => False) a x) (k : Keeps (two b g) x y) (hb : a.heap.size ≤ b) (hg : a.heap.size ≤ g) : Keeps (fun _ => False) a y :=
  h.step k (fun i hi e => by rcases e with e | e <;> omega)
set_option maxRecDepth 100000 in
set_option maxHeartbeats 4000000 in
theorem wild_walk (v : Value) (ws : List Int) (l kind on key : Int) (hl : isW l) (hkey : isW key) (hws : ∀ x ∈ ws, isW x) (hwb : ws.length * 8 ≤ 140737488351232) (w : World) (h : Lies w v ws) : Calls Try.prog 5 #[v, .int .u64 l, .agg #[.int .i64 kind, .int .i64 on, .int .u64 key]] w fun e w' => e = .returned (.bool true) ∧ Keeps (fun _ => False) w w' := by
  have HL := hid h
  obtain ⟨av, cv, rfl, _⟩ := h
  by_cases hbig : 500 < ws.length
  · have hb' : (500 : Int) < (ws.length : Int) := by omega
    go_enter Try.func5, Try.ntmps5
    go_wp2_with fail
    refine (known_any _).mono ?_
    rintro e_ w1 ⟨rfl, k1⟩
    have KK := hid ((keeps_new w _).trans k1)
    clear k1
    go_wp2_with fail
    go_ret
    exact ⟨rfl, KK.out⟩
  · have hb' : (ws.length : Int) ≤ 500 := by omega
    have hn : ws.length ≤ 1000000 := by omega
    clear hbig hwb
    obtain ⟨⟨R, s1⟩, eq1⟩ : ∃ r, (⟨ws, 0, 0, -1, 0⟩ : Wd).call 0 l kind key = r := ⟨_, rfl⟩
    obtain ⟨⟨⟨L, e⟩, s2⟩, eq2⟩ : ∃ r, (⟨ws, 0, 0, -1, 0⟩ : Wd).keys l = r := ⟨_, rfl⟩
    obtain ⟨⟨K, B⟩, eq3⟩ : ∃ r, stands ws l = r := ⟨_, rfl⟩
    have hks := keys_stands (s := ⟨ws, 0, 0, -1, 0⟩) hws neg1 l
    rw [eq2] at hks
    simp only [eq3] at hks
    have HE1 := hid eq1
    have HE2 := hid eq2
    have HE3 := hid eq3
    have hKl : B = true → K.length ≤ 1000000 := by
      intro q
      have q1 := hks.1 q
      simp only [Prod.mk.injEq] at q1
      have q2 := eq2
      unfold Wd.keys at q2
      obtain ⟨⟨⟨A, e0⟩, s0⟩, eq0⟩ : ∃ r, (⟨ws, 0, 0, -1, 0⟩ : Wd).all l = r := ⟨_, rfl⟩
      have q3 := all_len (s := ⟨ws, 0, 0, -1, 0⟩) ⟨hws, hn⟩ (.inr neg1) eq0
      rw [eq0] at q2
      rw [← q1.1]
      split at q2
      · simp only [Prod.mk.injEq] at q2; rw [← q2.1.1]; simp
      · simp only [Prod.mk.injEq] at q2; rw [← q2.1.1]; simpa using q3
    clear eq1 eq2 eq3
    have HB : Hid (∀ X, Keeps (fun _ => False) (w.alloc (.cells #[.int .i64 kind, .int .i64 on, .int .u64 key] 33)) X → X.heap[w.heap.size]? = some (.cells #[.int .i64 kind, .int .i64 on, .int .u64 key] 33 (0, 0)) ∧ Keeps (fun _ => False) w X ∧ Lies X (.slice av ws.length cv) ws) := by
      intro X k
      have k2 := (keeps_new w (.cells #[.int .i64 kind, .int .i64 on, .int .u64 key] 33)).trans k
      exact ⟨(k.block w.heap.size (by simp) (fun f => f)).trans (alloc_block w _), k2, HL.out.keeps k2 (fun _ _ _ _ f => f)⟩
    go_enter Try.func5, Try.ntmps5
    go_wp2_with fail
    have HS : Hid (∀ X, Keeps (fun _ => False) (w.alloc (.cells #[.int .i64 kind, .int .i64 on, .int .u64 key] 33)) X → X.cell? ⟨w.heap.size, 0, none⟩ = some (.int .i64 kind) ∧ X.cell? ⟨w.heap.size, 1, none⟩ = some (.int .i64 on) ∧ X.cell? ⟨w.heap.size, 2, none⟩ = some (.int .u64 key)) := fun X k => by
      have hb := (HB.out X k).1
      refine ⟨?_, ?_, ?_⟩ <;> (rw [cell_of_block hb]; rfl)
    have k0 : Keeps (fun _ => False) (w.alloc (.cells #[.int .i64 kind, .int .i64 on, .int .u64 key] 33)) (w.alloc (.cells #[.int .i64 kind, .int .i64 on, .int .u64 key] 33)).drew := (Keeps.refl _ _).drew
    have hSa : (w.alloc (.cells #[.int .i64 kind, .int .i64 on, .int .u64 key] 33)).drew.cell? ⟨w.heap.size, 0, none⟩ = some (.int .i64 kind) ∧ (w.alloc (.cells #[.int .i64 kind, .int .i64 on, .int .u64 key] 33)).drew.cell? ⟨w.heap.size, 1, none⟩ = some (.int .i64 on) ∧ (w.alloc (.cells #[.int .i64 kind, .int .i64 on, .int .u64 key] 33)).drew.cell? ⟨w.heap.size, 2, none⟩ = some (.int .u64 key) := HS.out _ k0
    have hL0 := (HB.out _ k0).2.2
    refine wp_held_end (S := fun W : World => W.cell? ⟨w.heap.size, 0, none⟩ = some (.int .i64 kind) ∧ W.cell? ⟨w.heap.size, 1, none⟩ = some (.int .i64 on) ∧ W.cell? ⟨w.heap.size, 2, none⟩ = some (.int .u64 key)) 6 rfl hmxp ?_
    simp only [Array.replicate_succ, Array.replicate_zero, List.push_toArray, List.nil_append, List.cons_append]
    refine held_take (i := 0) (v := (.slice av ws.length cv)) 15 rfl rfl (by kernel_rfl) (by kernel_rfl) (by kernel_rfl) rfl (fun w' hw' => by obtain ⟨q0, q1, q2⟩ := hw'; go_simp) hSa ?_
    simp only [Act.put, List.setIfInBounds_toArray, List.set_cons_zero, List.set_cons_succ]
    refine held_take (i := 3) (v := (.int .u64 l)) 18 rfl rfl (by kernel_rfl) (by kernel_rfl) (by kernel_rfl) rfl (fun w' hw' => by obtain ⟨q0, q1, q2⟩ := hw'; go_simp) hSa ?_
    simp only [Act.put, List.setIfInBounds_toArray, List.set_cons_zero, List.set_cons_succ]
    refine held_take (i := 4) (v := (.agg #[.int .i64 kind, .int .i64 on, .int .u64 key])) 19 rfl rfl (by kernel_rfl) (by kernel_rfl) (by kernel_rfl) rfl (fun w' hw' => by obtain ⟨q0, q1, q2⟩ := hw'; go_simp) hSa ?_
    simp only [Act.put, List.setIfInBounds_toArray, List.set_cons_zero, List.set_cons_succ]
    refine held_call (i := 1) (f := 17) (args := #[.slice av ws.length cv]) 16 (by kernel_rfl) rfl rfl rfl (by go_simp) ?_
    refine (over_any _ ws hws hn _ hL0).mono ?_
    rintro e_ x1 ⟨b, g, c, rfl, h1, k1, lb, lg⟩
    have KK := hid (k0.trans k1)
    have hSb : x1.cell? ⟨w.heap.size, 0, none⟩ = some (.int .i64 kind) ∧ x1.cell? ⟨w.heap.size, 1, none⟩ = some (.int .i64 on) ∧ x1.cell? ⟨w.heap.size, 2, none⟩ = some (.int .u64 key) := HS.out x1 KK.out
    have HLB : Hid (w.heap.size + 1 ≤ b ∧ w.heap.size + 1 ≤ g) := by
      have q : ((w.alloc (.cells #[.int .i64 kind, .int .i64 on, .int .u64 key] 33))).drew.heap.size = w.heap.size + 1 := by show ((w.alloc (.cells #[.int .i64 kind, .int .i64 on, .int .u64 key] 33))).heap.size = _; simp
      rw [q] at lb lg
      exact hid ⟨lb, lg⟩
    have H1 := hid h1
    clear h1 k1 lb lg k0 hL0
    refine ⟨_, rfl, hSb, ?_⟩
    simp only [Act.put, List.setIfInBounds_toArray, List.set_cons_zero, List.set_cons_succ]
    refine held_take (i := 2) (v := (.iface 24 (.pointer (some ⟨b, 0, none⟩)))) 17 rfl rfl (by kernel_rfl) (by kernel_rfl) (by kernel_rfl) rfl (fun w' hw' => by obtain ⟨q0, q1, q2⟩ := hw'; go_simp) hSb ?_
    simp only [Act.put, List.setIfInBounds_toArray, List.set_cons_zero, List.set_cons_succ]
    refine held_call (i := 5) (f := 11) (args := #[.iface 24 (.pointer (some ⟨b, 0, none⟩)), .int .u64 0, .int .u64 l, .agg #[.int .i64 kind, .int .i64 on, .int .u64 key]]) 20 (by kernel_rfl) rfl rfl rfl (by go_simp) ?_
    refine (do_r HE1 zero_isW hl hkey (.inr neg1) H1.out).mono ?_
    rintro e_ x2 ⟨v2, rfl, r2, h2, k2⟩
    replace KK := hid (KK.out.none k2 (by have := HLB.out; simp; omega) (by have := HLB.out; simp; omega))
    have hSc : x2.cell? ⟨w.heap.size, 0, none⟩ = some (.int .i64 kind) ∧ x2.cell? ⟨w.heap.size, 1, none⟩ = some (.int .i64 on) ∧ x2.cell? ⟨w.heap.size, 2, none⟩ = some (.int .u64 key) := HS.out x2 KK.out
    clear h2 k2 r2 H1 HLB
    refine ⟨_, rfl, hSc, ?_⟩
    simp only [Act.put, List.setIfInBounds_toArray, List.set_cons_zero, List.set_cons_succ]
    refine held_end (by kernel_rfl) ?_ _
    clear hSc hSb hSa HS
    cases B with
    | true =>
      replace hKl := hKl rfl
      obtain hLe := hks.1 rfl
      simp only [Prod.mk.injEq] at hLe
      obtain ⟨rfl, rfl⟩ := hLe
      clear hks
      have hL2 := (HB.out x2 KK.out).2.2
      go_wp2_with fail
      refine (over_any _ ws hws hn _ hL2).mono ?_
      rintro e_ x3 ⟨b2, g2, c2, rfl, h3, k3, lb, lg⟩
      have hsz := KK.out.size
      simp at hsz
      replace KK := hid (KK.out.trans k3)
      have H3 := hid (And.intro h3 (And.intro lb lg))
      clear h3 k3 lb lg hL2
      go_wp2_with fail
      have hh := H3.out
      refine (keys_r HE2 hl (.inr neg1) hh.1).mono ?_
      rintro e_ x4 ⟨v4, rfl, r4, h4, k4⟩
      replace KK := hid (KK.out.none k4 (by simp; omega) (by simp; omega))
      have HV4 := hid r4
      obtain ⟨a4, c4, rfl⟩ := r4.form
      have hL4 := (HB.out x4 KK.out).2.2
      clear hh H3 h4 k4 r4
      go_wp2_with fail
      refine (stands_any _ ws l hl hws hn _ hL4).mono ?_
      rw [HE3.out]
      rintro e_ x5 ⟨v5, rfl, r5, k5⟩
      replace KK := hid (KK.out.trans k5)
      have HV5 := hid (And.intro r5.lies (HV4.out.lies.keeps k5 (fun _ _ _ _ f => f)))
      obtain ⟨a5, c5, rfl⟩ := r5.form
      clear r5 k5 hL4 HV4
      go_wp2_with fail
      refine (words_same _ _ _ (Nat.le_trans hKl (by omega)) _ HV5.out.2 HV5.out.1).mono ?_
      rintro e_ x6 ⟨rfl, m, hw⟩
      replace KK := hid (KK.out.drewN m)
      rw [← hw] at KK
      clear hw HV5
      go_wp2_with fail
      refine (known_any _).mono ?_
      rintro e_ x7 ⟨rfl, k7⟩
      replace KK := hid (KK.out.trans k7)
      clear k7
      go_wp2_with fail
      go_ret
      exact ⟨rfl, (HB.out _ KK.out).2.1⟩
    | false =>
      obtain ⟨rfl, he⟩ := hks.2 rfl
      clear hks
      rcases he with rfl | rfl
      · skip
        have hL2 := (HB.out x2 KK.out).2.2
        go_wp2_with fail
        refine (over_any _ ws hws hn _ hL2).mono ?_
        rintro e_ x3 ⟨b2, g2, c2, rfl, h3, k3, lb, lg⟩
        have hsz := KK.out.size
        simp at hsz
        replace KK := hid (KK.out.trans k3)
        have H3 := hid (And.intro h3 (And.intro lb lg))
        clear h3 k3 lb lg hL2
        go_wp2_with fail
        have hh := H3.out
        refine (keys_r HE2 hl (.inr neg1) hh.1).mono ?_
        rintro e_ x4 ⟨v4, rfl, r4, h4, k4⟩
        replace KK := hid (KK.out.none k4 (by simp; omega) (by simp; omega))
        have HV4 := hid r4
        obtain ⟨a4, c4, rfl⟩ := r4.form
        have hL4 := (HB.out x4 KK.out).2.2
        clear hh H3 h4 k4 r4
        go_wp2_with fail
        refine (stands_any _ ws l hl hws hn _ hL4).mono ?_
        rw [HE3.out]
        rintro e_ x5 ⟨v5, rfl, r5, k5⟩
        replace KK := hid (KK.out.trans k5)
        have HV5 := hid (And.intro r5.lies (HV4.out.lies.keeps k5 (fun _ _ _ _ f => f)))
        obtain ⟨a5, c5, rfl⟩ := r5.form
        clear r5 k5 hL4 HV4
        go_wp2_with fail
        refine (known_any _).mono ?_
        rintro e_ x7 ⟨rfl, k7⟩
        replace KK := hid (KK.out.trans k7)
        clear k7
        go_wp2_with fail
        go_ret
        exact ⟨rfl, (HB.out _ KK.out).2.1⟩
      · skip
        have hL2 := (HB.out x2 KK.out).2.2
        go_wp2_with fail
        refine (over_any _ ws hws hn _ hL2).mono ?_
        rintro e_ x3 ⟨b2, g2, c2, rfl, h3, k3, lb, lg⟩
        have hsz := KK.out.size
        simp at hsz
        replace KK := hid (KK.out.trans k3)
        have H3 := hid (And.intro h3 (And.intro lb lg))
        clear h3 k3 lb lg hL2
        go_wp2_with fail
        have hh := H3.out
        refine (keys_r HE2 hl (.inr neg1) hh.1).mono ?_
        rintro e_ x4 ⟨v4, rfl, r4, h4, k4⟩
        replace KK := hid (KK.out.none k4 (by simp; omega) (by simp; omega))
        have HV4 := hid r4
        obtain ⟨a4, c4, rfl⟩ := r4.form
        have hL4 := (HB.out x4 KK.out).2.2
        clear hh H3 h4 k4 r4
        go_wp2_with fail
        refine (stands_any _ ws l hl hws hn _ hL4).mono ?_
        rw [HE3.out]
        rintro e_ x5 ⟨v5, rfl, r5, k5⟩
        replace KK := hid (KK.out.trans k5)
        have HV5 := hid (And.intro r5.lies (HV4.out.lies.keeps k5 (fun _ _ _ _ f => f)))
        obtain ⟨a5, c5, rfl⟩ := r5.form
        clear r5 k5 hL4 HV4
        go_wp2_with fail
        refine (known_any _).mono ?_
        rintro e_ x7 ⟨rfl, k7⟩
        replace KK := hid (KK.out.trans k7)
        clear k7
        go_wp2_with fail
        go_ret
        exact ⟨rfl, (HB.out _ KK.out).2.1⟩
end Go.Proofs.Ytbdekpccddmehaa
