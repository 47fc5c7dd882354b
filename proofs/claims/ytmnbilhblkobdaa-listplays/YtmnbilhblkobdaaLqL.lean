
/- The walk of Keys (layer 21). No statement of the seat is proved here. -/
import Derived.Test.YtmnbilhblkobdaaLqJ
namespace Go.Proofs.Ytmnbilhblkobdaa
open Go.RowKit

theorem Wr.base {w : World} {base base' : Nat} {v : Value} {l : List Int} (h : Wr w base v l) (hb : base' ≤ base) : Wr w base' v l := by
  refine ⟨h.1, ?_⟩
  rcases h.2 with q | ⟨g, cap, cur, h1, h2, h3⟩
  · exact .inl q
  · exact .inr ⟨g, cap, cur, h1, Nat.le_trans hb h2, h3⟩
theorem all_len {s s1 : Wd} {l e : Int} {L : List Sp} (oks : s.Ok) (hce : s.c ≠ 0 ∨ s.f < 0) (eq1 : s.all l = ((L, e), s1)) : L.length ≤ 1000000 := by
  have hce1 : (s.get l).2.c ≠ 0 ∨ (s.get l).2.f < 0 := (get_like s l).ce hce
  have q := (oks.get l).1.wayLen hce1 (pAll (s.get l).1.1) l
  unfold Wd.all at eq1
  split at eq1
  · simp only [Prod.mk.injEq] at eq1; rw [← eq1.1.1]; simp
  · split at eq1
    · simp only [Prod.mk.injEq] at eq1; rw [← eq1.1.1]; simp
    · split at eq1
      · simp only [Prod.mk.injEq] at eq1; rw [← eq1.1.1]; simp
      · simp only [Prod.mk.injEq] at eq1; rw [← eq1.1.1]; exact q
theorem take_map_succ (L : List Sp) (k : Nat) (h : k < L.length) : (L.take (k + 1)).map Sp.k = (L.take k).map Sp.k ++ [L[k].k] := by
  rw [List.take_succ_eq_append_getElem h, List.map_append]
  rfl
set_option maxRecDepth 100000 in
set_option maxHeartbeats 2000000 in
theorem keys_any (b g c : Nat) (s : Wd) (l : Int) (hl : isW l) (hce : s.c ≠ 0 ∨ s.f < 0) (w : World) (h : WdAt w b g c s) :
    Calls Try.prog 18 #[.iface 24 (.pointer (some ⟨b, 0, none⟩)), .int .u64 l] w fun e w' => ∃ v, e = .returned (.tuple #[v, .int .i64 (s.keys l).1.2]) ∧ Wr w' w.heap.size v (s.keys l).1.1 ∧ WdAt w' b g c (s.keys l).2 ∧ Keeps (two b g) w w' := by
  have hlb : Hid (b < w.heap.size ∧ g < w.heap.size) := ⟨h.ltb, h.ltg⟩
  have oks : s.Ok := h.ok
  have HH := hid (Hs.start h)
  clear h
  obtain ⟨⟨⟨L, e⟩, s1⟩, eq1⟩ : ∃ r_, s.all l = r_ := ⟨_, rfl⟩
  by_cases hze : e = 0
  · subst hze
    have hLl : L.length ≤ 1000000 := all_len oks hce eq1
    have hs : s.keys l = ((L.map Sp.k, 0), s1) := by
      unfold Wd.keys
      simp [eq1]
    rw [hs]
    have HE1 : Hid (_ = _) := eq1
    clear hs eq1
    go_enter Try.func18, Try.ntmps18
    go_wp2_with fail
    have hh := HH.out
    refine (all_r HE1 hl hce hh.wd).mono ?_
    rintro e_ w1 ⟨v, rfl, r1, h1, k1⟩
    replace HH := hid (And.intro (hh.acc k1 h1) r1)
    obtain ⟨av, cv, rfl⟩ := r1.form
    have HOB : Hid (∀ i, (Value.slice av L.length cv).ownBlock = some i → i < w1.heap.size) := hid (fun i e => (own_block r1 e).1)
    have hsz := k1.size
    clear hh h1 k1 r1
    go_wp2_with fail
    go_loopw [8, 24] (fun kv ix wr => ∃ (k : Nat), k ≤ L.length ∧ ix = .int .i64 k ∧ Hid (Hs w b g c wr s1 ∧ Srw wr w.heap.size (.slice av L.length cv) L ∧ Wr wr w1.heap.size kv ((L.take k).map Sp.k) ∧ w1.heap.size ≤ wr.heap.size)) (fun _ ix _ => L.length - (intOf ix).toNat)
    case atStart => exact ⟨0, by omega, rfl, hid ⟨HH.out.1, HH.out.2, Wr.nil _ _, Nat.le_refl _⟩⟩
    case round =>
      obtain ⟨k, hk, rfl, HY⟩ := hrel
      clear HH
      obtain ⟨ak, ck, rfl⟩ := HY.out.2.2.1.form
      by_cases hlt : k < L.length
      · obtain ⟨ga, cp, hva, hga, c0, c1, c2⟩ := HY.out.2.1.at hlt
        simp only [Value.slice.injEq] at hva
        obtain ⟨rfl, _, rfl⟩ := hva
        have hki : (k : Int) < (L.length : Int) := by omega
        have hlen : ((L.take k).map Sp.k).length = k := by simp; omega
        have HTM := hid (take_map_succ L k hlt)
        generalize hLk : L[k] = t at *
        obtain ⟨tl, tn, tk⟩ := t
        clear hLk
        have kn := keeps_new wr (.cells #[.int .u64 tl, .int .u64 tn, .int .u64 tk] 75)
        obtain ⟨v', wa, hrun, hwr, hkp⟩ := (HY.out.2.2.1.keeps kn (fun _ f => f.elim)).push (x := tk) (Nat.le_trans HY.out.2.2.2 kn.size) (by omega)
        obtain ⟨av', cv', rfl⟩ := hwr.form
        have HR : Hid ((Builtin.append_ #[30, 30] 30 #[.slice ak ((L.take k).map Sp.k).length ck, .slice (some ⟨wr.heap.size + 1, 0, none⟩) 1 1]).run Try.prog ((wr.alloc (.cells #[.int .u64 tl, .int .u64 tn, .int .u64 tk] 75)).alloc (.cells #[.int .u64 tk] 25)) = .ok (.slice av' ((L.take k).map Sp.k ++ [tk]).length cv') wa) := by
          rw [show (wr.alloc (.cells #[.int .u64 tl, .int .u64 tn, .int .u64 tk] 75)).heap.size = wr.heap.size + 1 by simp] at hrun
          exact hid hrun
        have HN : Hid (Hs w b g c wa s1 ∧ Srw wa w.heap.size (.slice (some ⟨ga, 0, none⟩) L.length cv) L ∧ Wr wa w1.heap.size (.slice av' ((L.take k).map Sp.k ++ [tk]).length cv') ((L.take (k + 1)).map Sp.k) ∧ w1.heap.size ≤ wa.heap.size) := by
          have hob := HOB.out ga rfl
          have hy := HY.out
          refine hid ⟨(hy.1.new kn).own hkp (fun i e => by omega), own_keeps (own_keeps hy.2.1 kn (fun _ _ f => f)) hkp (fun i e f => by have := HOB.out i e; omega), ?_, Nat.le_trans hy.2.2.2 (Nat.le_trans kn.size hkp.size)⟩
          rw [HTM.out]; exact hwr
        rw [hlen] at HR
        rw [List.length_append, hlen] at HR HN
        have hk2 : ([tk] : List Int).length = 1 := rfl
        rw [hk2] at HR HN
        clear hrun hwr hkp kn HY HTM
        rw [hlen]
        have hwk : IntKind.i64.wrap ((k : Int) + 1) = ((k + 1 : Nat) : Int) := by rw [IntKind.wrap_i64]; omega
        clear hlen hk2
        go_wp2_with (at_builtin; refine wpList_append_run rfl _ _ 30 rfl rfl rfl HR.out ?_; clear HR c0 c1 c2)
        go_roundw
        case rel => exact ⟨k + 1, by omega, by simp, HN⟩
        case measure => simp [intOf]; omega
      · obtain rfl : k = L.length := by omega
        clear hlt hk
        go_wp2_with fail
        go_ret2
        have hy := HY.out
        have q := hy.2.2.1.base hsz
        refine ⟨_, rfl, ?_, hy.1.wd, hy.1.k⟩
        rw [show L.map Sp.k = (L.take L.length).map Sp.k by rw [List.take_length]]
        exact q
  · skip
    have hs : s.keys l = (([], e), s1) := by
      unfold Wd.keys
      simp [eq1, hze]
    rw [hs]
    have HE1 : Hid (_ = _) := eq1
    clear hs eq1
    go_enter Try.func18, Try.ntmps18
    go_wp2_with fail
    have hh := HH.out
    refine (all_r HE1 hl hce hh.wd).mono ?_
    rintro e_ w1 ⟨v, rfl, r1, h1, k1⟩
    replace HH := hid (And.intro (hh.acc k1 h1) r1)
    obtain ⟨av, cv, rfl⟩ := r1.form
    have HOB : Hid (∀ i, (Value.slice av L.length cv).ownBlock = some i → i < w1.heap.size) := hid (fun i e => (own_block r1 e).1)
    have hsz := k1.size
    clear hh h1 k1 r1
    go_wp2_with fail
    go_ret2
    exact ⟨_, rfl, Wr.nil _ _, HH.out.1.wd, HH.out.1.k⟩
theorem keys_r {b g c : Nat} {s : Wd} {l e1 : Int} {L : List Int} {s1 : Wd} (heq : Hid (s.keys l = ((L, e1), s1))) (hl : isW l) (hce : s.c ≠ 0 ∨ s.f < 0) {w : World} (h : WdAt w b g c s) :
    Calls Try.prog 18 #[.iface 24 (.pointer (some ⟨b, 0, none⟩)), .int .u64 l] w fun e w' => ∃ v, e = .returned (.tuple #[v, .int .i64 e1]) ∧ Wr w' w.heap.size v L ∧ WdAt w' b g c s1 ∧ Keeps (two b g) w w' := by
  have q := keys_any b g c s l hl hce w h
  rw [heq.out] at q
  exact q
end Go.Proofs.Ytmnbilhblkobdaa
