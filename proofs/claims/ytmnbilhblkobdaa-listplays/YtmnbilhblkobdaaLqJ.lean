
/- The walks of giveNodes, Clear and Drop (layer 21). No statement of the seat is proved here. -/
import Derived.Test.YtmnbilhblkobdaaLqH
import Derived.Test.YtmnbilhblkobdaaLqF
namespace Go.Proofs.Ytmnbilhblkobdaa
open Go.RowKit

theorem Srw.at {w : World} {base : Nat} {v : Value} {P : List Sp} (h : Srw w base v P) {k : Nat} (hk : k < P.length) :
    ∃ g cp, v = .slice (some ⟨g, 0, none⟩) P.length cp ∧ base ≤ g ∧ w.cell? ⟨g, k * 3, none⟩ = some (.int .u64 P[k].l) ∧ w.cell? ⟨g, k * 3 + 1, none⟩ = some (.int .u64 P[k].n) ∧ w.cell? ⟨g, k * 3 + 2, none⟩ = some (.int .u64 P[k].k) := by
  rcases id h.2 with ⟨h1, h2⟩ | ⟨g, cap, cur, rfl, hb, _⟩
  · omega
  · obtain ⟨q0, q1, q2⟩ := spV_at P k hk
    refine ⟨g, cap, rfl, hb, ?_, ?_, ?_⟩
    · rw [World.ownsRow.cellAt h _ (by omega), q0]
    · rw [World.ownsRow.cellAt h _ (by omega), q1]
    · rw [World.ownsRow.cellAt h _ (by omega), q2]
theorem Srw.keeps {w w' : World} {base : Nat} {v : Value} {P : List Sp} {S : Nat → Prop} (h : Srw w base v P) (k : Keeps S w w') (hs : ∀ g, S g → g < base) : Srw w' base v P :=
  own_keeps h k (fun g hg hS => by have := hs g hS; have := (own_block h hg).2; omega)
theorem gives_drop (s : Wd) (r : Int) (L : List Sp) (k : Nat) (h : k < L.length) : s.gives r (L.drop k) = if (s.give r L[k].nd 2).1 ≠ 0 then s.give r L[k].nd 2 else (s.give r L[k].nd 2).2.gives r (L.drop (k + 1)) := by
  rw [List.drop_eq_getElem_cons h]
  rfl
set_option maxRecDepth 100000 in
set_option maxHeartbeats 2000000 in
theorem giveN_any (b g c : Nat) (s : Wd) (r l : Int) (hl : isW l) (hce : s.c ≠ 0 ∨ s.f < 0) (w : World) (h : WdAt w b g c s) :
    Calls Try.prog 50 #[.iface 24 (.pointer (some ⟨b, 0, none⟩)), .int .u64 r, .int .u64 l] w fun e w' => e = .returned (.tuple #[.int .u64 (s.giveNodes r l).1.1, .int .i64 (s.giveNodes r l).1.2]) ∧ WdAt w' b g c (s.giveNodes r l).2 ∧ Keeps (two b g) w w' := by
  have hlb : Hid (b < w.heap.size ∧ g < w.heap.size) := ⟨h.ltb, h.ltg⟩
  have oks : s.Ok := h.ok
  have HH := hid (Hs.start h)
  clear h
  obtain ⟨⟨⟨L, e⟩, s1⟩, eq1⟩ : ∃ r_, s.all l = r_ := ⟨_, rfl⟩
  by_cases hze : e = 0
  · subst hze
    obtain ⟨⟨f, s2⟩, eq2⟩ : ∃ r_, s1.gives r L = r_ := ⟨_, rfl⟩
    have hLl : L.length ≤ 1000000 := by
      have hce1 : (s.get l).2.c ≠ 0 ∨ (s.get l).2.f < 0 := (get_like s l).ce hce
      have q := (oks.get l).1.wayLen hce1 (pAll (s.get l).1.1) l
      unfold Wd.all at eq1
      split at eq1
      · simp only [Prod.mk.injEq] at eq1; rw [← eq1.1.1]; simp
      · split at eq1
        · simp only [Prod.mk.injEq] at eq1; rw [← eq1.1.1]; simp
        · split at eq1
          · simp only [Prod.mk.injEq] at eq1; rw [← eq1.1.1]; simp
          · simp only [Prod.mk.injEq] at eq1; rw [← eq1.1.1]; exact q
    have hwl : IntKind.u64.wrap (L.length : Int) = (L.length : Int) := by rw [IntKind.wrap_u64]; omega
    obtain ⟨R, hR⟩ : ∃ R : (Int × Int) × Wd, R = if f ≠ 0 then ((0, f), s2) else (((L.length : Int), 0), s2) := ⟨_, rfl⟩
    have hs : s.giveNodes r l = R := by
      unfold Wd.giveNodes
      rw [hR]
      simp [eq1, eq2]
    rw [hs]
    have HR : Hid (_ = _) := hR
    have HE1 : Hid (_ = _) := eq1
    have HE2 : Hid (_ = _) := eq2
    clear hs eq1 eq2 hR
    go_enter Try.func50, Try.ntmps50
    go_wp2_with fail
    have hh := HH.out
    refine (all_r HE1 hl hce hh.wd).mono ?_
    rintro e_ w1 ⟨v, rfl, r1, h1, k1⟩
    replace HH := hid (And.intro (hh.acc k1 h1) r1)
    obtain ⟨av, cv, rfl⟩ := r1.form
    clear hh h1 k1 r1
    go_wp2_with fail
    go_loopw [9, 23] (fun er ix wr => ∃ (k : Nat) (s' : Wd), k ≤ L.length ∧ er = .int .i64 0 ∧ ix = .int .i64 k ∧ Hid (Hs w b g c wr s' ∧ Srw wr w.heap.size (.slice av L.length cv) L ∧ s1.gives r L = s'.gives r (L.drop k))) (fun _ ix _ => L.length - (intOf ix).toNat)
    case atStart => exact ⟨0, s1, by omega, rfl, rfl, hid ⟨HH.out.1, HH.out.2, by rw [List.drop_zero]⟩⟩
    case round =>
      obtain ⟨k, s', hk, rfl, rfl, HY⟩ := hrel
      clear HH
      by_cases hlt : k < L.length
      · obtain ⟨ga, cp, hva, hga, c0, c1, c2⟩ := HY.out.2.1.at hlt
        simp only [Value.slice.injEq] at hva
        obtain ⟨rfl, _, rfl⟩ := hva
        have hki : (k : Int) < (L.length : Int) := by omega
        obtain ⟨⟨f1, s3⟩, eq3⟩ : ∃ r_, s'.give r L[k].nd 2 = r_ := ⟨_, rfl⟩
        have HE3 : Hid (_ = _) := eq3
        have HGD : Hid (s'.gives r (L.drop k) = if f1 ≠ 0 then (f1, s3) else s3.gives r (L.drop (k + 1))) := hid (by rw [gives_drop _ _ _ _ hlt, eq3])
        clear eq3
        generalize hLk : L[k] = t at *
        obtain ⟨tl, tn, tk⟩ := t
        clear hLk
        go_wp2_with fail
        refine (node_any ⟨tl, tn, tk⟩ _).mono ?_
        rintro e_ w2 ⟨rfl, o_, hw_⟩
        have HV : Hid (Hs w b g c w2 s' ∧ Srw w2 w.heap.size (.slice (some ⟨ga, 0, none⟩) L.length cv) L) := by
          have kn : Keeps (fun _ => False) wr w2 := by rw [hw_]; exact (keeps_new wr _).alloc _
          exact hid ⟨HY.out.1.new kn, HY.out.2.1.keeps kn (fun _ f => f.elim)⟩
        have HEQ := hid HY.out.2.2
        clear hw_ HY c0 c1 c2
        go_wp2_with fail
        have hv := HV.out
        refine (give_r HE3 (uw_isW _) hv.1.wd).mono ?_
        rintro e_ w3 ⟨rfl, h3, k3⟩
        have HU : Hid (Hs w b g c w3 s3 ∧ Srw w3 w.heap.size (.slice (some ⟨ga, 0, none⟩) L.length cv) L) := by
          have hb := hlb.out
          exact hid ⟨hv.1.acc k3 h3, hv.2.keeps k3 (by rintro i (e | e) <;> omega)⟩
        clear hv h3 k3 HV HE3
        by_cases hf1 : f1 = 0
        · subst hf1
          have hwk : IntKind.i64.wrap ((k : Int) + 1) = ((k + 1 : Nat) : Int) := by rw [IntKind.wrap_i64]; omega
          go_wp2_with fail
          go_roundw
          case rel => exact ⟨k + 1, s3, by omega, rfl, by simp, hid ⟨HU.out.1, HU.out.2, HEQ.out.trans (HGD.out.trans (if_neg (fun q => q rfl)))⟩⟩
          case measure => simp [intOf]; omega
        · have HFN : Hid (R = ((0, f1), s3)) := by
            have q := HE2.out
            rw [HEQ.out, HGD.out, if_pos hf1] at q
            simp only [Prod.mk.injEq] at q
            have h2 := HR.out
            rw [← q.1, ← q.2, if_pos hf1] at h2
            exact hid h2
          go_wp2_with fail
          go_ret2
          rw [HFN.out]
          exact ⟨rfl, HU.out.1.wd, HU.out.1.k⟩
      · obtain rfl : k = L.length := by omega
        have HFN : Hid (R = (((L.length : Int), 0), s')) := by
          have q := HE2.out
          rw [HY.out.2.2, List.drop_length] at q
          simp only [Wd.gives, Prod.mk.injEq] at q
          have h2 := HR.out
          rw [← q.1, ← q.2] at h2
          exact hid (h2.trans (if_neg (fun q => q rfl)))
        clear hlt hk
        go_wp2_with fail
        go_ret2
        rw [HFN.out]
        exact ⟨rfl, HY.out.1.wd, HY.out.1.k⟩
  · skip
    have hs : s.giveNodes r l = ((0, e), s1) := by
      unfold Wd.giveNodes
      simp [eq1, hze]
    rw [hs]
    have HE1 : Hid (_ = _) := eq1
    clear hs eq1
    go_enter Try.func50, Try.ntmps50
    go_wp2_with fail
    have hh := HH.out
    refine (all_r HE1 hl hce hh.wd).mono ?_
    rintro e_ w1 ⟨v, rfl, r1, h1, k1⟩
    replace HH := hid (And.intro (hh.acc k1 h1) r1)
    obtain ⟨av, cv, rfl⟩ := r1.form
    clear hh h1 k1 r1
    go_wp2_with fail
    go_ret2
    exact ⟨rfl, HH.out.1.wd, HH.out.1.k⟩
theorem giveN_r {b g c : Nat} {s : Wd} {r l : Int} {x1 e1 : Int} {s1 : Wd} (heq : Hid (s.giveNodes r l = ((x1, e1), s1))) (hl : isW l) (hce : s.c ≠ 0 ∨ s.f < 0) {w : World} (h : WdAt w b g c s) :
    Calls Try.prog 50 #[.iface 24 (.pointer (some ⟨b, 0, none⟩)), .int .u64 r, .int .u64 l] w fun e w' => e = .returned (.tuple #[.int .u64 x1, .int .i64 e1]) ∧ WdAt w' b g c s1 ∧ Keeps (two b g) w w' := by
  have q := giveN_any b g c s r l hl hce w h
  rw [heq.out] at q
  exact q
end Go.Proofs.Ytmnbilhblkobdaa
