
/- The walk of all (layer 21). No statement of the seat is proved here. -/
import Derived.Test.YtmnbilhblkobdaaLqG
namespace Go.Proofs.Ytmnbilhblkobdaa
open Go.RowKit

theorem way_ris (pass : List Sp → Sp → Bool) : ∀ (m : Nat) (b : Sp) (a : Int) (P : List Sp) (s : Wd), s.Ok → isW a → (s.c ≠ 0 ∨ s.f < 0) → Ris s.W P b → ∃ b', Ris s.W (way pass m b a P s).2.1 b'
  | 0, b, a, P, s, _, _, _, hr => ⟨b, hr⟩
  | m + 1, b, a, P, s, hs, ha, hc, hr => by
    obtain ⟨⟨⟨t, e⟩, s1⟩, eq⟩ : ∃ r, s.follow a = r := ⟨_, rfl⟩
    have hf := hs.follow ha
    have hl := follow_like s a
    rw [eq] at hf hl
    by_cases h1 : e ≠ 0 ∨ t.n = 0
    · rw [way_end eq h1]; exact ⟨b, hr⟩
    · have he : e = 0 := Classical.not_not.1 (fun q => h1 (.inl q))
      have hn : t.n ≠ 0 := fun q => h1 (.inr q)
      subst he
      by_cases hb : b.n ≠ 0 ∧ t.k ≤ b.k
      · rw [way_list eq hn hb.1 hb.2]; exact ⟨b, hr⟩
      · cases hp : pass P t with
        | false => rw [way_stop eq hn hb hp]; exact ⟨b, hr⟩
        | true =>
          rw [way_next eq hn hb hp]
          have q := way_ris pass m t (ld t.nd) (P ++ [t]) s1 hf.1 (uw_isW _) (hl.ce hc) (by
            have hw : s1.W = s.W := hf.2.2
            rw [hw]
            exact hr.next (follow_mem eq hs hn hc) hn hb)
          have hw : s1.W = s.W := hf.2.2
          rw [hw] at q
          exact q
theorem Wd.Ok.wayLen {s : Wd} (h : s.Ok) (hc : s.c ≠ 0 ∨ s.f < 0) (pass : List Sp → Sp → Bool) (l : Int) : (s.way pass l).2.1.length ≤ 1000000 := by
  obtain ⟨b', hr⟩ := way_ris pass FU Sp.zero (ld l) [] s h (uw_isW _) hc (Ris.nil _)
  exact Nat.le_trans hr.len h.2
set_option maxRecDepth 100000 in
set_option maxHeartbeats 2000000 in
theorem all_any (b g c : Nat) (s : Wd) (l : Int) (hl : isW l) (hce : s.c ≠ 0 ∨ s.f < 0) (w : World) (h : WdAt w b g c s) :
    Calls Try.prog 41 #[.iface 24 (.pointer (some ⟨b, 0, none⟩)), .int .u64 l] w fun e w' => ∃ v, e = .returned (.tuple #[v, .int .i64 (s.all l).1.2]) ∧ Srw w' w.heap.size v (s.all l).1.1 ∧ WdAt w' b g c (s.all l).2 ∧ Keeps (two b g) w w' := by
  have mg := meth_get b
  have ng := nil_get b
  have oks : s.Ok := h.ok
  have HH := hid (Hs.start h)
  clear h
  obtain ⟨⟨⟨x, e⟩, s1⟩, eq1⟩ : ∃ r, s.get (l) = r := ⟨_, rfl⟩
  have hwx : isW x := get_isW eq1 oks
  have oks1 : s1.Ok := by have q := (oks.get (l)).1; rw [eq1] at q; exact q
  by_cases hze : e = 0
  · subst hze
    obtain ⟨⟨⟨⟨tl, tn, tk⟩, f⟩, P, s2⟩, eq2⟩ : ∃ r, s1.way (pAll x) l = r := ⟨_, rfl⟩
    have hce1 : s1.c ≠ 0 ∨ s1.f < 0 := by have q := get_like s l; rw [eq1] at q; exact q.ce hce
    by_cases hzf : f = 0
    · subst hzf
      by_cases hzt : tn = 0
      · subst hzt
        have hPl : P.length ≤ 1000000 := by have q := oks1.wayLen hce1 (pAll x) l; rw [eq2] at q; exact q
        have hwl : IntKind.u64.wrap (P.length : Int) = (P.length : Int) := by rw [IntKind.wrap_u64]; omega
        by_cases hpl : (P.length : Int) = x
        · skip
          have hs : s.all l = ((P, 0), s2) := by
            unfold Wd.all
            simp [eq1, eq2, hpl]
          rw [hs]
          have HE1 : Hid (_ = _) := eq1
          have HE2 : Hid (_ = _) := eq2
          clear hs eq1 eq2
          go_enter Try.func41, Try.ntmps41
          go_wp2_with fail
          have hh := HH.out
          refine (tget_r HE1 hl hh.wd).mono ?_
          rintro e_ w1 ⟨rfl, h1, k1⟩
          replace HH := hid (hh.acc k1 h1)
          clear hh h1 k1
          go_wp2_with fail
          have HX : Hid (∀ X, X = ((w1.alloc (.cells #[.int .u64 x] 25)).alloc (.cells #[.slice none 0 0] 80)) → Hs w b g c X s1 ∧ SpotsAt w.heap.size (w1.heap.size + 1) w1.heap.size x [] X ∧ ∀ i, SpotsFp (w1.heap.size + 1) w1.heap.size X i → w.heap.size ≤ i) := by
            intro X hX
            have hsz := HH.out.k.size
            have kn : Keeps (fun _ => False) w1 X := by rw [hX]; exact (keeps_new w1 _).alloc _
            have hq : X.heap[w1.heap.size + 1]? = some (.cells #[.slice none 0 0] 80 (0, 0)) := by
              have q := alloc_block (w1.alloc (.cells #[.int .u64 x] 25)) (.cells #[.slice none 0 0] 80)
              rw [show (w1.alloc (.cells #[.int .u64 x] 25)).heap.size = w1.heap.size + 1 by simp] at q
              rw [hX]; exact q
            have hk : KeyAt X w1.heap.size x := by
              rw [hX]
              exact KeyAt.keeps (alloc_block w1 _) (keeps_new _ _) (fun f => f)
            refine ⟨HH.out.new kn, ⟨hk, ⟨_, hq, Srw.nil _ _, fun k e => by cases e⟩, by omega, by have := kn.size; omega⟩, ?_⟩
            rintro i (e | e | ⟨u, h1, h2⟩)
            · omega
            · omega
            · rw [hq] at h1
              simp only [Option.some.injEq, Obj.cells.injEq] at h1
              have h3 : u = .slice none 0 0 := by
                have := congrArg (fun (z : Array Value) => z[0]?) h1.1
                simpa using this.symm
              rw [h3] at h2
              cases h2
          obtain ⟨X, hX⟩ : ∃ X, X = ((w1.alloc (.cells #[.int .u64 x] 25)).alloc (.cells #[.slice none 0 0] 80)) := ⟨_, rfl⟩
          rw [← hX]
          have hx := HX.out X hX
          have hsz := HH.out.k.size
          clear HX hX HH
          refine (way_r (pass_all w.heap.size (w1.heap.size + 1) w1.heap.size x) HE2 hce1 hx.1.wd hx.2.1 (fun e => by have := hx.2.2 _ e; have := hx.1.lb; omega) (fun e => by have := hx.2.2 _ e; have := hx.1.lb; omega)).mono ?_
          rintro e_ w2 ⟨rfl, h2, j2, k2, f2⟩
          have HZ : Hid (Hs w b g c w2 s2 ∧ SpotsAt w.heap.size (w1.heap.size + 1) w1.heap.size x P w2) := hid ⟨⟨h2, hx.1.k.step k2 (fun i hi e => by rcases e with e | e; exact e; have := hx.2.2 _ e; omega), hx.1.lb⟩, j2⟩
          clear hx h2 j2 k2 f2
          unfold Sp.v
          go_wp2_with fail
          refine (there_any ⟨tl, 0, tk⟩ _).mono ?_
          rintro e_ w3 ⟨rfl, o_, hw_⟩
          have HV : Hid (Hs w b g c w3 s2 ∧ SpotsAt w.heap.size (w1.heap.size + 1) w1.heap.size x P w3) := by
            have kn : Keeps (fun _ => False) w2 w3 := by rw [hw_]; exact (keeps_new w2 _).alloc _
            exact hid ⟨HZ.out.1.new kn, ((pass_all w.heap.size (w1.heap.size + 1) w1.heap.size x).keep HZ.out.2 kn (fun _ f => f.elim)).1⟩
          clear HZ hw_
          unfold Sp.there
          have hk3 := HV.out.2.key.cell
          obtain ⟨v, hv, hr, hn⟩ := HV.out.2.ex
          have HRV := hid hr
          obtain ⟨av, cv, rfl⟩ := hr.form
          have hv0 : w3.cell? ⟨w1.heap.size + 1, 0, none⟩ = some (.slice av P.length cv) := by rw [cell_of_block hv]; rfl
          clear hv hr hn
          go_wp2_with fail
          go_ret2
          have hq := HV.out.1
          exact ⟨_, rfl, HRV.out, hq.wd, hq.k⟩
        · have hplb : ((P.length : Int) != x) = true := by simpa using hpl
          have hs : s.all l = (([], 310), s2) := by
            unfold Wd.all
            simp [eq1, eq2, hpl]
          rw [hs]
          have HE1 : Hid (_ = _) := eq1
          have HE2 : Hid (_ = _) := eq2
          clear hs eq1 eq2
          go_enter Try.func41, Try.ntmps41
          go_wp2_with fail
          have hh := HH.out
          refine (tget_r HE1 hl hh.wd).mono ?_
          rintro e_ w1 ⟨rfl, h1, k1⟩
          replace HH := hid (hh.acc k1 h1)
          clear hh h1 k1
          go_wp2_with fail
          have HX : Hid (∀ X, X = ((w1.alloc (.cells #[.int .u64 x] 25)).alloc (.cells #[.slice none 0 0] 80)) → Hs w b g c X s1 ∧ SpotsAt w.heap.size (w1.heap.size + 1) w1.heap.size x [] X ∧ ∀ i, SpotsFp (w1.heap.size + 1) w1.heap.size X i → w.heap.size ≤ i) := by
            intro X hX
            have hsz := HH.out.k.size
            have kn : Keeps (fun _ => False) w1 X := by rw [hX]; exact (keeps_new w1 _).alloc _
            have hq : X.heap[w1.heap.size + 1]? = some (.cells #[.slice none 0 0] 80 (0, 0)) := by
              have q := alloc_block (w1.alloc (.cells #[.int .u64 x] 25)) (.cells #[.slice none 0 0] 80)
              rw [show (w1.alloc (.cells #[.int .u64 x] 25)).heap.size = w1.heap.size + 1 by simp] at q
              rw [hX]; exact q
            have hk : KeyAt X w1.heap.size x := by
              rw [hX]
              exact KeyAt.keeps (alloc_block w1 _) (keeps_new _ _) (fun f => f)
            refine ⟨HH.out.new kn, ⟨hk, ⟨_, hq, Srw.nil _ _, fun k e => by cases e⟩, by omega, by have := kn.size; omega⟩, ?_⟩
            rintro i (e | e | ⟨u, h1, h2⟩)
            · omega
            · omega
            · rw [hq] at h1
              simp only [Option.some.injEq, Obj.cells.injEq] at h1
              have h3 : u = .slice none 0 0 := by
                have := congrArg (fun (z : Array Value) => z[0]?) h1.1
                simpa using this.symm
              rw [h3] at h2
              cases h2
          obtain ⟨X, hX⟩ : ∃ X, X = ((w1.alloc (.cells #[.int .u64 x] 25)).alloc (.cells #[.slice none 0 0] 80)) := ⟨_, rfl⟩
          rw [← hX]
          have hx := HX.out X hX
          have hsz := HH.out.k.size
          clear HX hX HH
          refine (way_r (pass_all w.heap.size (w1.heap.size + 1) w1.heap.size x) HE2 hce1 hx.1.wd hx.2.1 (fun e => by have := hx.2.2 _ e; have := hx.1.lb; omega) (fun e => by have := hx.2.2 _ e; have := hx.1.lb; omega)).mono ?_
          rintro e_ w2 ⟨rfl, h2, j2, k2, f2⟩
          have HZ : Hid (Hs w b g c w2 s2 ∧ SpotsAt w.heap.size (w1.heap.size + 1) w1.heap.size x P w2) := hid ⟨⟨h2, hx.1.k.step k2 (fun i hi e => by rcases e with e | e; exact e; have := hx.2.2 _ e; omega), hx.1.lb⟩, j2⟩
          clear hx h2 j2 k2 f2
          unfold Sp.v
          go_wp2_with fail
          refine (there_any ⟨tl, 0, tk⟩ _).mono ?_
          rintro e_ w3 ⟨rfl, o_, hw_⟩
          have HV : Hid (Hs w b g c w3 s2 ∧ SpotsAt w.heap.size (w1.heap.size + 1) w1.heap.size x P w3) := by
            have kn : Keeps (fun _ => False) w2 w3 := by rw [hw_]; exact (keeps_new w2 _).alloc _
            exact hid ⟨HZ.out.1.new kn, ((pass_all w.heap.size (w1.heap.size + 1) w1.heap.size x).keep HZ.out.2 kn (fun _ f => f.elim)).1⟩
          clear HZ hw_
          unfold Sp.there
          have hk3 := HV.out.2.key.cell
          obtain ⟨v, hv, hr, hn⟩ := HV.out.2.ex
          have HRV := hid hr
          obtain ⟨av, cv, rfl⟩ := hr.form
          have hv0 : w3.cell? ⟨w1.heap.size + 1, 0, none⟩ = some (.slice av P.length cv) := by rw [cell_of_block hv]; rfl
          clear hv hr hn
          go_wp2_with fail
          go_ret2
          have hq := HV.out.1
          exact ⟨_, rfl, Srw.nil _ _, hq.wd, hq.k⟩
      · have hzb : (tn != 0) = true := by simpa using hzt
        have hs : s.all l = (([], 310), s2) := by
          unfold Wd.all
          simp [eq1, eq2, hzt]
        rw [hs]
        have HE1 : Hid (_ = _) := eq1
        have HE2 : Hid (_ = _) := eq2
        clear hs eq1 eq2
        go_enter Try.func41, Try.ntmps41
        go_wp2_with fail
        have hh := HH.out
        refine (tget_r HE1 hl hh.wd).mono ?_
        rintro e_ w1 ⟨rfl, h1, k1⟩
        replace HH := hid (hh.acc k1 h1)
        clear hh h1 k1
        go_wp2_with fail
        have HX : Hid (∀ X, X = ((w1.alloc (.cells #[.int .u64 x] 25)).alloc (.cells #[.slice none 0 0] 80)) → Hs w b g c X s1 ∧ SpotsAt w.heap.size (w1.heap.size + 1) w1.heap.size x [] X ∧ ∀ i, SpotsFp (w1.heap.size + 1) w1.heap.size X i → w.heap.size ≤ i) := by
          intro X hX
          have hsz := HH.out.k.size
          have kn : Keeps (fun _ => False) w1 X := by rw [hX]; exact (keeps_new w1 _).alloc _
          have hq : X.heap[w1.heap.size + 1]? = some (.cells #[.slice none 0 0] 80 (0, 0)) := by
            have q := alloc_block (w1.alloc (.cells #[.int .u64 x] 25)) (.cells #[.slice none 0 0] 80)
            rw [show (w1.alloc (.cells #[.int .u64 x] 25)).heap.size = w1.heap.size + 1 by simp] at q
            rw [hX]; exact q
          have hk : KeyAt X w1.heap.size x := by
            rw [hX]
            exact KeyAt.keeps (alloc_block w1 _) (keeps_new _ _) (fun f => f)
          refine ⟨HH.out.new kn, ⟨hk, ⟨_, hq, Srw.nil _ _, fun k e => by cases e⟩, by omega, by have := kn.size; omega⟩, ?_⟩
          rintro i (e | e | ⟨u, h1, h2⟩)
          · omega
          · omega
          · rw [hq] at h1
            simp only [Option.some.injEq, Obj.cells.injEq] at h1
            have h3 : u = .slice none 0 0 := by
              have := congrArg (fun (z : Array Value) => z[0]?) h1.1
              simpa using this.symm
            rw [h3] at h2
            cases h2
        obtain ⟨X, hX⟩ : ∃ X, X = ((w1.alloc (.cells #[.int .u64 x] 25)).alloc (.cells #[.slice none 0 0] 80)) := ⟨_, rfl⟩
        rw [← hX]
        have hx := HX.out X hX
        have hsz := HH.out.k.size
        clear HX hX HH
        refine (way_r (pass_all w.heap.size (w1.heap.size + 1) w1.heap.size x) HE2 hce1 hx.1.wd hx.2.1 (fun e => by have := hx.2.2 _ e; have := hx.1.lb; omega) (fun e => by have := hx.2.2 _ e; have := hx.1.lb; omega)).mono ?_
        rintro e_ w2 ⟨rfl, h2, j2, k2, f2⟩
        have HZ : Hid (Hs w b g c w2 s2 ∧ SpotsAt w.heap.size (w1.heap.size + 1) w1.heap.size x P w2) := hid ⟨⟨h2, hx.1.k.step k2 (fun i hi e => by rcases e with e | e; exact e; have := hx.2.2 _ e; omega), hx.1.lb⟩, j2⟩
        clear hx h2 j2 k2 f2
        unfold Sp.v
        go_wp2_with fail
        refine (there_any ⟨tl, tn, tk⟩ _).mono ?_
        rintro e_ w3 ⟨rfl, o_, hw_⟩
        have HV : Hid (Hs w b g c w3 s2 ∧ SpotsAt w.heap.size (w1.heap.size + 1) w1.heap.size x P w3) := by
          have kn : Keeps (fun _ => False) w2 w3 := by rw [hw_]; exact (keeps_new w2 _).alloc _
          exact hid ⟨HZ.out.1.new kn, ((pass_all w.heap.size (w1.heap.size + 1) w1.heap.size x).keep HZ.out.2 kn (fun _ f => f.elim)).1⟩
        clear HZ hw_
        unfold Sp.there
        simp only [hzb]
        go_wp2_with fail
        go_ret2
        have hq := HV.out.1
        exact ⟨_, rfl, Srw.nil _ _, hq.wd, hq.k⟩
    · skip
      have hs : s.all l = (([], f), s2) := by
        unfold Wd.all
        simp [eq1, eq2, hzf]
      rw [hs]
      have HE1 : Hid (_ = _) := eq1
      have HE2 : Hid (_ = _) := eq2
      clear hs eq1 eq2
      go_enter Try.func41, Try.ntmps41
      go_wp2_with fail
      have hh := HH.out
      refine (tget_r HE1 hl hh.wd).mono ?_
      rintro e_ w1 ⟨rfl, h1, k1⟩
      replace HH := hid (hh.acc k1 h1)
      clear hh h1 k1
      go_wp2_with fail
      have HX : Hid (∀ X, X = ((w1.alloc (.cells #[.int .u64 x] 25)).alloc (.cells #[.slice none 0 0] 80)) → Hs w b g c X s1 ∧ SpotsAt w.heap.size (w1.heap.size + 1) w1.heap.size x [] X ∧ ∀ i, SpotsFp (w1.heap.size + 1) w1.heap.size X i → w.heap.size ≤ i) := by
        intro X hX
        have hsz := HH.out.k.size
        have kn : Keeps (fun _ => False) w1 X := by rw [hX]; exact (keeps_new w1 _).alloc _
        have hq : X.heap[w1.heap.size + 1]? = some (.cells #[.slice none 0 0] 80 (0, 0)) := by
          have q := alloc_block (w1.alloc (.cells #[.int .u64 x] 25)) (.cells #[.slice none 0 0] 80)
          rw [show (w1.alloc (.cells #[.int .u64 x] 25)).heap.size = w1.heap.size + 1 by simp] at q
          rw [hX]; exact q
        have hk : KeyAt X w1.heap.size x := by
          rw [hX]
          exact KeyAt.keeps (alloc_block w1 _) (keeps_new _ _) (fun f => f)
        refine ⟨HH.out.new kn, ⟨hk, ⟨_, hq, Srw.nil _ _, fun k e => by cases e⟩, by omega, by have := kn.size; omega⟩, ?_⟩
        rintro i (e | e | ⟨u, h1, h2⟩)
        · omega
        · omega
        · rw [hq] at h1
          simp only [Option.some.injEq, Obj.cells.injEq] at h1
          have h3 : u = .slice none 0 0 := by
            have := congrArg (fun (z : Array Value) => z[0]?) h1.1
            simpa using this.symm
          rw [h3] at h2
          cases h2
      obtain ⟨X, hX⟩ : ∃ X, X = ((w1.alloc (.cells #[.int .u64 x] 25)).alloc (.cells #[.slice none 0 0] 80)) := ⟨_, rfl⟩
      rw [← hX]
      have hx := HX.out X hX
      have hsz := HH.out.k.size
      clear HX hX HH
      refine (way_r (pass_all w.heap.size (w1.heap.size + 1) w1.heap.size x) HE2 hce1 hx.1.wd hx.2.1 (fun e => by have := hx.2.2 _ e; have := hx.1.lb; omega) (fun e => by have := hx.2.2 _ e; have := hx.1.lb; omega)).mono ?_
      rintro e_ w2 ⟨rfl, h2, j2, k2, f2⟩
      have HZ : Hid (Hs w b g c w2 s2 ∧ SpotsAt w.heap.size (w1.heap.size + 1) w1.heap.size x P w2) := hid ⟨⟨h2, hx.1.k.step k2 (fun i hi e => by rcases e with e | e; exact e; have := hx.2.2 _ e; omega), hx.1.lb⟩, j2⟩
      clear hx h2 j2 k2 f2
      unfold Sp.v
      go_wp2_with fail
      go_ret2
      have hq := HZ.out.1.new (keeps_new w2 (.cells #[.int .u64 tl, .int .u64 tn, .int .u64 tk] 75))
      exact ⟨_, rfl, Srw.nil _ _, hq.wd, hq.k⟩
  · skip
    have hs : s.all l = (([], e), s1) := by
      unfold Wd.all
      simp [eq1, hze]
    rw [hs]
    have HE1 : Hid (_ = _) := eq1
    clear hs eq1
    go_enter Try.func41, Try.ntmps41
    go_wp2_with fail
    have hh := HH.out
    refine (tget_r HE1 hl hh.wd).mono ?_
    rintro e_ w1 ⟨rfl, h1, k1⟩
    replace HH := hid (hh.acc k1 h1)
    clear hh h1 k1
    go_wp2_with fail
    go_ret2
    have hq := HH.out.new (keeps_new w1 (.cells #[.int .u64 x] 25))
    exact ⟨_, rfl, Srw.nil _ _, hq.wd, hq.k⟩
theorem all_r {b g c : Nat} {s : Wd} {l e1 : Int} {L : List Sp} {s1 : Wd} (heq : Hid (s.all l = ((L, e1), s1))) (hl : isW l) (hce : s.c ≠ 0 ∨ s.f < 0) {w : World} (h : WdAt w b g c s) :
    Calls Try.prog 41 #[.iface 24 (.pointer (some ⟨b, 0, none⟩)), .int .u64 l] w fun e w' => ∃ v, e = .returned (.tuple #[v, .int .i64 e1]) ∧ Srw w' w.heap.size v L ∧ WdAt w' b g c s1 ∧ Keeps (two b g) w w' := by
  have q := all_any b g c s l hl hce w h
  rw [heq.out] at q
  exact q
end Go.Proofs.Ytmnbilhblkobdaa
