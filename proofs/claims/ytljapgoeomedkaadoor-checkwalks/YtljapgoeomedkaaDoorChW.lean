
/- The law CheckWalks. No statement of the seat is proved here. -/
import Derived.Test.YtljapgoeomedkaaDoorChX
namespace Go.Proofs.YtljapgoeomedkaaDoor
open Go.RowKit Go.Shelf

/-- Truths where they lie. -/
def BlAt (w : World) (v : Value) (L : List Bool) : Prop := ∃ a cap, v = .slice a L.length cap ∧ ∀ k (hk : k < L.length), ∃ g off, a = some ⟨g, off, none⟩ ∧ w.cell? ⟨g, off + k, none⟩ = some (.bool (L[k]'hk))
theorem BlAt.keeps {w w' : World} {v : Value} {L : List Bool} (h : BlAt w v L) (k : Keeps (fun _ => False) w w') : BlAt w' v L := by
  obtain ⟨a, cap, hv, hc⟩ := h
  refine ⟨a, cap, hv, fun j hj => ?_⟩
  obtain ⟨g, off, e, c⟩ := hc j hj
  refine ⟨g, off, e, ?_⟩
  rw [← c]
  simp [World.cell?, k.block g (World.block_lt_of_cell? _ _ c) (fun f => f)]
theorem verd_facts {p : List I5} (h : (verd p).2 = 0) : (0 < p.length ∧ p.length ≤ 256) ∧ (∀ k, k < p.length → formF p k = false) ∧ (∀ k, k < p.length → tgtF p k = false) ∧ (∀ k, k < p.length → behF (reachB p) p k = false) ∧ (∀ k, k < p.length → modF (reachB p) p k = false) ∧ (verd p).1 = -1 := by
  have hl := verd_ok_len h
  have hv : verd p = verdW (reachB p) p := rfl
  rw [hv] at h ⊢
  unfold verdW at h ⊢
  rw [if_neg (by omega)] at h ⊢
  cases e1 : firstK p.length (formF p) with
  | some k => rw [e1] at h; simp at h
  | none =>
    rw [e1] at h
    cases e2 : firstK p.length (tgtF p) with
    | some k => rw [e2] at h; simp at h
    | none =>
      rw [e2] at h
      cases e3 : firstK p.length (behF (reachB p) p) with
      | some k => rw [e3] at h; simp at h
      | none =>
        rw [e3] at h
        cases e4 : firstK p.length (modF (reachB p) p) with
        | some k => rw [e4] at h; simp at h
        | none => exact ⟨hl, firstK_none.1 e1, firstK_none.1 e2, firstK_none.1 e3, firstK_none.1 e4, rfl⟩
theorem cell_keeps {w w' : World} (k : Keeps (fun _ => False) w w') {g o : Nat} {v : Value} (h : w.cell? ⟨g, o, none⟩ = some v) : w'.cell? ⟨g, o, none⟩ = some v := by
  rw [← h]
  simp [World.cell?, k.block g (World.block_lt_of_cell? _ _ h) (fun f => f)]
theorem side_same {op : Int} (h1 : op ≠ 12) (h2 : op ≠ 15) (h3 : op ≠ 16) (s : Bool) : sideB op s = s := by
  unfold sideB; rw [if_neg h1, if_neg (by omega)]
def mM (s : Bool) : Int := if s then 2 else 1
/-- What holds at a place to which a way leads. -/
theorem way_at {p : List I5} (h : (verd p).2 = 0) {a : Nat} {s : Bool} (hr : Reach p a s) : a < p.length ∧ modeN p a = mM s ∧ (1 ≤ (at5 p a).op ∧ (at5 p a).op ≤ 17) ∧ (s = false → outB (at5 p a).op = true) ∧ (s = true → insB (at5 p a).op = true) ∧ ∀ b ∈ folL (at5 p a) a, b < p.length ∧ Reach p b (sideB (at5 p a).op s) := by
  obtain ⟨⟨h0, h1⟩, hf, ht, hb, hm, _⟩ := verd_facts h
  have hlt := reach_lt h0 hr
  have hm' := hm a hlt
  have hf' := hf a hlt
  have hb' := hb a hlt
  have hff := formed_facts (i := at5 p a) (by simpa [formF] using hf')
  refine ⟨hlt, ?_, hff.1, ?_, ?_, fun b hb2 => ?_⟩
  · unfold modeN modeB mM
    unfold modF at hm'
    cases s
    · rw [reachB_iff.2 hr] at hm' ⊢
      have : reachB p a true = false := by
        rcases hq : reachB p a true with _ | _
        · rfl
        · rw [hq] at hm'; simp at hm'
      rw [this]; rfl
    · rw [reachB_iff.2 hr]; rfl
  · intro hs
    subst hs
    unfold modF at hm'
    rw [reachB_iff.2 hr] at hm'
    rcases ho : outB (at5 p a).op with _ | _
    · rw [ho] at hm'; simp at hm'
    · rfl
  · intro hs
    subst hs
    unfold modF at hm'
    rw [reachB_iff.2 hr] at hm'
    rcases ho : insB (at5 p a).op with _ | _
    · rw [ho] at hm'; simp at hm'
    · rfl
  · have hblt : b < p.length := by
      unfold behF at hb'
      have hor : (reachB p a false || reachB p a true) = true := by
        cases s
        · rw [reachB_iff.2 hr]; rfl
        · rw [reachB_iff.2 hr]; simp
      rw [hor] at hb'
      simp only [Bool.true_and, List.any_eq_false, decide_eq_true_eq] at hb'
      have := hb' b hb2
      omega
    exact ⟨hblt, .step hr (at5_some hlt) hb2 hblt⟩
theorem fol_one {i : I5} {a : Nat} (h1 : i.op ≠ 17) (h2 : i.op ≠ 9) : ∃ b, folL i a = [b] := by
  unfold folL
  rw [if_neg h1]
  split
  · exact ⟨_, rfl⟩
  · exact ⟨_, rfl⟩
theorem fol_nine {i : I5} {a : Nat} (h : i.op = 9) : (∃ b, folL i a = [b]) ∨ ∃ b c, folL i a = [b, c] := by
  unfold folL
  rw [if_neg (by omega), if_neg (by omega), if_pos h]
  split
  · exact .inr ⟨_, _, rfl⟩
  · split
    · exact .inr ⟨_, _, rfl⟩
    · exact .inl ⟨_, rfl⟩

/-- What holds at the head of a round. -/
def WRel (p : List I5) (T : List Bool) (w : World) (u m i : Value) (wr : World) : Prop := ∃ (j a : Nat) (s : Bool), u = .int .i64 a ∧ m = .int .i64 (mM s) ∧ i = .int .i64 j ∧ j ≤ T.length + 1 ∧ Reach p a s ∧ Keeps (fun _ => False) w wr

set_option maxRecDepth 100000 in
set_option maxHeartbeats 20000000 in
theorem walks_law (v vt : Value) (p : List I5) (T : List Bool) (hT : T.length ≤ 140737488355328) (w : World) (h : InsAt w v p) (hb : BlAt w vt T) (hG : Gb w) : Calls Tryd.prog 6 #[v, vt] w fun e w' => e = .returned (.bool true) ∧ Keeps (fun _ => False) w w' := by
  have HH : Hid (∀ X, Keeps (fun _ => False) w X → InsAt X v p ∧ BlAt X vt T ∧ Gb X) := fun X k => ⟨h.keeps k, hb.keeps k, hG.keeps k⟩
  have KN := known_any w hG
  have NA := num_any
  obtain ⟨⟨av, cap, rfl, -⟩, -, -⟩ := h
  obtain ⟨at0, capt, rfl, -⟩ := hb
  clear hG
  go_enter Tryd.func6, Tryd.ntmps6
  go_wp2_with fail
  refine KN.mono ?_
  rintro e w1 ⟨rfl, k1⟩
  have MA := modes_any _ p w1 (HH.out w1 k1).1 (HH.out w1 k1).2.2
  clear KN
  go_wp2_with fail
  refine MA.mono ?_
  rintro e w2 ⟨mv, rfl, k2, hok, hno⟩
  have K2 := k1.trans k2
  clear MA k1 k2
  by_cases hv : (verd p).2 = 0
  · obtain ⟨g, rfl, hg, hB⟩ := hok hv
    have HV : Hid ((verd p).2 = 0) := hv
    have HB : Hid (∀ X, Keeps (fun _ => False) w2 X → X.heap[g]? = some (.cells (mds p.length (modeN p)) 70 (0, 0))) := fun X k => (k.block _ (lt_of_block hB) (fun f => f)).trans hB
    have hpl := verd_ok_len hv
    rw [hv]
    clear hok hno hB hv hg
    go_wp2_with fail
    refine (NA _ _).mono ?_
    rintro e w3 ⟨rfl, rfl⟩
    go_wp2_with fail
    go_loopw [7, 8, 9] (fun u m i wr => ∃ (j a : Nat) (s : Bool), u = .int .i64 a ∧ m = .int .i64 (mM s) ∧ i = .int .i64 j ∧ j ≤ T.length + 1 ∧ j ≤ 5000 ∧ Hid (Reach p a s ∧ Keeps (fun _ => False) w3 wr)) (fun _ _ i _ => 5000 - (intOf i).toNat)
    case atStart => exact ⟨0, 0, false, rfl, rfl, rfl, by omega, by omega, ⟨.start, Keeps.refl _ _⟩⟩
    case round =>
      obtain ⟨j, a, s, rfl, rfl, rfl, hj, hj5, hh⟩ := hrel
      by_cases hjt : j ≤ T.length
      · have hji : (j : Int) ≤ T.length := by omega
        by_cases hj6 : j < 5000
        · have hj6i : (j : Int) < 5000 := by omega
          obtain ⟨hR, hK⟩ := hh.out
          obtain ⟨ha, hmo, ⟨o0, o1⟩, hso, hsi, hfol⟩ := way_at HV.out hR
          have KW := K2.trans hK
          have bM := HB.out wr hK
          have cM := cell_of_block bM a
          rw [mds_at ha, hmo] at cM
          obtain ⟨⟨⟨av', cap', hv, hc⟩, -, -⟩, -, -⟩ := HH.out wr KW
          cases hv
          obtain ⟨pg, po, rfl, d0, -, -, -, -⟩ := hc a ha
          have h5 : p[a]'ha = at5 p a := by simp [at5, ha]
          rw [h5] at d0
          have FA := followers_any _ p a wr (HH.out wr KW).1
          have hai : (a : Int) < p.length := by omega
          have han : ¬ (a : Int) < 0 := by omega
          have hag : ¬ (a : Int) ≥ p.length := by omega
          have HF : Hid (∀ b ∈ folL (at5 p a) a, b < p.length ∧ Reach p b (sideB (at5 p a).op s)) := hfol
          have one : Hid ((at5 p a).op ≠ 17 → (at5 p a).op ≠ 9 → ∃ b, folL (at5 p a) a = [b]) := fun x y => fol_one x y
          have nine : Hid ((at5 p a).op = 9 → (∃ b, folL (at5 p a) a = [b]) ∨ ∃ b c, folL (at5 p a) a = [b, c]) := fun x => fol_nine x
          have hlt : Hid ((at5 p a).op = 17 → folL (at5 p a) a = []) := fun x => by unfold folL; rw [if_pos x]
          have hpa : Hid (0 ≤ (a : Int) ∧ (a : Int) < p.length) := by constructor <;> omega
          have hEP : Hid (∀ e w', EPost p (a : Int) wr e w' → Keeps (fun _ => False) wr w' ∧ ∃ u, e = .returned (.tuple #[u, .int .i64 0]) ∧ NumAt w' u ((folL (at5 p a) a).map fun (n : Nat) => (n : Int))) := fun e w' ⟨q1, q2, _⟩ => ⟨q1, by
            obtain ⟨u, hu, hi⟩ := q2 hpa.out
            exact ⟨u, hu, by simpa using hi.num⟩⟩
          have hKK : Hid (Keeps (fun _ => False) w3 wr ∧ Keeps (fun _ => False) w wr) := ⟨hK, KW⟩
          generalize hF0 : folL (at5 p a) a = F at *
          generalize hop : (at5 p a).op = op at *
          clear hc h5 hh hR hK KW bM hfol hmo hF0 hop hpa
          by_cases c17 : op = 17
          · subst c17
            have hs : s = false := by
              cases s
              · rfl
              · exact absurd (hsi rfl) (by decide)
            subst hs
            clear hso hsi o0 o1
            rw [show mM false = 1 from rfl] at cM ⊢
            obtain rfl := hlt.out rfl
            clear one nine hlt
            go_wp2_with fail
            refine FA.mono ?_
            intro e w4 hE
            obtain ⟨k4, u4, rfl, n4⟩ := hEP.out e w4 hE
            obtain ⟨ua, uc, rfl, nc⟩ := n4
            have d4 := cell_keeps k4 d0
            clear FA hE d0 cM
            simp only [List.map_nil, List.length_nil]
            clear nc
            go_wp2_with fail
            refine (NA _ _).mono ?_
            rintro e w5 ⟨rfl, rfl⟩
            go_wp2_with fail
            go_ret
            exact ⟨rfl, hKK.out.2.trans k4⟩
          · have _u17 := trivial
            by_cases c10 : op = 10
            · subst c10
              have hs : s = false := by
                cases s
                · rfl
                · exact absurd (hsi rfl) (by decide)
              subst hs
              clear hso hsi o0 o1
              rw [show mM false = 1 from rfl] at cM ⊢
              obtain ⟨b, rfl⟩ := one.out (by decide) (by decide)
              clear one nine hlt
              go_wp2_with fail
              refine FA.mono ?_
              intro e w4 hE
              obtain ⟨k4, u4, rfl, n4⟩ := hEP.out e w4 hE
              obtain ⟨ua, uc, rfl, nc⟩ := n4
              have d4 := cell_keeps k4 d0
              clear FA hE d0 cM
              obtain ⟨ug, uo, rfl, x0⟩ := nc 0 (by simp)
              simp only [List.map_cons, List.map_nil, List.length_cons, List.length_nil, Nat.zero_add, List.getElem_cons_zero, Nat.add_zero] at x0 ⊢
              have hbr := (HF.out b (by simp)).2
              rw [show sideB 10 false = false from rfl] at hbr
              by_cases hje : j = T.length
              · have hjei : (j : Int) = T.length := by omega
                clear nc
                go_wp2_with fail
                refine (NA _ _).mono ?_
                rintro e w5 ⟨rfl, rfl⟩
                go_wp2_with fail
                go_ret
                exact ⟨rfl, hKK.out.2.trans k4⟩
              · have hjei : ¬ (j : Int) = T.length := by omega
                have hjl : j < T.length := by omega
                have hjli : (j : Int) < T.length := by omega
                obtain ⟨-, ⟨ta, tc, hv, htc⟩, -⟩ := HH.out w4 (hKK.out.2.trans k4)
                cases hv
                obtain ⟨tg, tof, rfl, t0⟩ := htc j hjl
                generalize T[j]'hjl = tb at *
                clear nc htc
                cases tb
                · have HQ : Hid (Reach p b false ∧ Keeps (fun _ => False) w3 w4) := ⟨hbr, hKK.out.1.trans k4⟩
                  go_wp2_with fail
                  refine (NA _ _).mono ?_
                  rintro e w5 ⟨rfl, rfl⟩
                  go_wp2_with fail
                  go_roundw
                  · exact ⟨j + 1, b, false, by simp, rfl, by simp, by omega, by omega, HQ.out⟩
                  · simp [intOf]; omega
                · have HQ : Hid (Reach p b false ∧ Keeps (fun _ => False) w3 w4) := ⟨hbr, hKK.out.1.trans k4⟩
                  go_wp2_with fail
                  refine (NA _ _).mono ?_
                  rintro e w5 ⟨rfl, rfl⟩
                  go_wp2_with fail
                  go_roundw
                  · exact ⟨j + 1, b, false, by simp, rfl, by simp, by omega, by omega, HQ.out⟩
                  · simp [intOf]; omega
            · have _u10 := trivial
              by_cases c11 : op = 11
              · subst c11
                have hs : s = false := by
                  cases s
                  · rfl
                  · exact absurd (hsi rfl) (by decide)
                subst hs
                clear hso hsi o0 o1
                rw [show mM false = 1 from rfl] at cM ⊢
                obtain ⟨b, rfl⟩ := one.out (by decide) (by decide)
                clear one nine hlt
                go_wp2_with fail
                refine FA.mono ?_
                intro e w4 hE
                obtain ⟨k4, u4, rfl, n4⟩ := hEP.out e w4 hE
                obtain ⟨ua, uc, rfl, nc⟩ := n4
                have d4 := cell_keeps k4 d0
                clear FA hE d0 cM
                obtain ⟨ug, uo, rfl, x0⟩ := nc 0 (by simp)
                simp only [List.map_cons, List.map_nil, List.length_cons, List.length_nil, Nat.zero_add, List.getElem_cons_zero, Nat.add_zero] at x0 ⊢
                have hbr := (HF.out b (by simp)).2
                rw [show sideB 11 false = false from rfl] at hbr
                by_cases hje : j = T.length
                · have hjei : (j : Int) = T.length := by omega
                  clear nc
                  go_wp2_with fail
                  refine (NA _ _).mono ?_
                  rintro e w5 ⟨rfl, rfl⟩
                  go_wp2_with fail
                  go_ret
                  exact ⟨rfl, hKK.out.2.trans k4⟩
                · have hjei : ¬ (j : Int) = T.length := by omega
                  have hjl : j < T.length := by omega
                  have hjli : (j : Int) < T.length := by omega
                  obtain ⟨-, ⟨ta, tc, hv, htc⟩, -⟩ := HH.out w4 (hKK.out.2.trans k4)
                  cases hv
                  obtain ⟨tg, tof, rfl, t0⟩ := htc j hjl
                  generalize T[j]'hjl = tb at *
                  clear nc htc
                  cases tb
                  · have HQ : Hid (Reach p b false ∧ Keeps (fun _ => False) w3 w4) := ⟨hbr, hKK.out.1.trans k4⟩
                    go_wp2_with fail
                    refine (NA _ _).mono ?_
                    rintro e w5 ⟨rfl, rfl⟩
                    go_wp2_with fail
                    go_roundw
                    · exact ⟨j + 1, b, false, by simp, rfl, by simp, by omega, by omega, HQ.out⟩
                    · simp [intOf]; omega
                  · have HQ : Hid (Reach p b false ∧ Keeps (fun _ => False) w3 w4) := ⟨hbr, hKK.out.1.trans k4⟩
                    go_wp2_with fail
                    refine (NA _ _).mono ?_
                    rintro e w5 ⟨rfl, rfl⟩
                    go_wp2_with fail
                    go_roundw
                    · exact ⟨j + 1, b, false, by simp, rfl, by simp, by omega, by omega, HQ.out⟩
                    · simp [intOf]; omega
              · have _u11 := trivial
                by_cases c12 : op = 12
                · subst c12
                  have hs : s = false := by
                    cases s
                    · rfl
                    · exact absurd (hsi rfl) (by decide)
                  subst hs
                  clear hso hsi o0 o1
                  rw [show mM false = 1 from rfl] at cM ⊢
                  obtain ⟨b, rfl⟩ := one.out (by decide) (by decide)
                  clear one nine hlt
                  go_wp2_with fail
                  refine FA.mono ?_
                  intro e w4 hE
                  obtain ⟨k4, u4, rfl, n4⟩ := hEP.out e w4 hE
                  obtain ⟨ua, uc, rfl, nc⟩ := n4
                  have d4 := cell_keeps k4 d0
                  clear FA hE d0 cM
                  obtain ⟨ug, uo, rfl, x0⟩ := nc 0 (by simp)
                  simp only [List.map_cons, List.map_nil, List.length_cons, List.length_nil, Nat.zero_add, List.getElem_cons_zero, Nat.add_zero] at x0 ⊢
                  have hbr := (HF.out b (by simp)).2
                  rw [show sideB 12 false = true from rfl] at hbr
                  by_cases hje : j = T.length
                  · have hjei : (j : Int) = T.length := by omega
                    clear nc
                    go_wp2_with fail
                    refine (NA _ _).mono ?_
                    rintro e w5 ⟨rfl, rfl⟩
                    go_wp2_with fail
                    go_ret
                    exact ⟨rfl, hKK.out.2.trans k4⟩
                  · have hjei : ¬ (j : Int) = T.length := by omega
                    have hjl : j < T.length := by omega
                    have hjli : (j : Int) < T.length := by omega
                    obtain ⟨-, ⟨ta, tc, hv, htc⟩, -⟩ := HH.out w4 (hKK.out.2.trans k4)
                    cases hv
                    obtain ⟨tg, tof, rfl, t0⟩ := htc j hjl
                    generalize T[j]'hjl = tb at *
                    clear nc htc
                    cases tb
                    · have HQ : Hid (Reach p b true ∧ Keeps (fun _ => False) w3 w4) := ⟨hbr, hKK.out.1.trans k4⟩
                      go_wp2_with fail
                      refine (NA _ _).mono ?_
                      rintro e w5 ⟨rfl, rfl⟩
                      go_wp2_with fail
                      go_roundw
                      · exact ⟨j + 1, b, true, by simp, rfl, by simp, by omega, by omega, HQ.out⟩
                      · simp [intOf]; omega
                    · have HQ : Hid (Reach p b true ∧ Keeps (fun _ => False) w3 w4) := ⟨hbr, hKK.out.1.trans k4⟩
                      go_wp2_with fail
                      refine (NA _ _).mono ?_
                      rintro e w5 ⟨rfl, rfl⟩
                      go_wp2_with fail
                      go_roundw
                      · exact ⟨j + 1, b, true, by simp, rfl, by simp, by omega, by omega, HQ.out⟩
                      · simp [intOf]; omega
                · have _u12 := trivial
                  by_cases c13 : op = 13
                  · subst c13
                    have hs : s = true := by
                      cases s
                      · exact absurd (hso rfl) (by decide)
                      · rfl
                    subst hs
                    clear hso hsi o0 o1
                    rw [show mM true = 2 from rfl] at cM ⊢
                    obtain ⟨b, rfl⟩ := one.out (by decide) (by decide)
                    clear one nine hlt
                    go_wp2_with fail
                    refine FA.mono ?_
                    intro e w4 hE
                    obtain ⟨k4, u4, rfl, n4⟩ := hEP.out e w4 hE
                    obtain ⟨ua, uc, rfl, nc⟩ := n4
                    have d4 := cell_keeps k4 d0
                    clear FA hE d0 cM
                    obtain ⟨ug, uo, rfl, x0⟩ := nc 0 (by simp)
                    simp only [List.map_cons, List.map_nil, List.length_cons, List.length_nil, Nat.zero_add, List.getElem_cons_zero, Nat.add_zero] at x0 ⊢
                    have hbr := (HF.out b (by simp)).2
                    rw [show sideB 13 true = true from rfl] at hbr
                    by_cases hje : j = T.length
                    · have hjei : (j : Int) = T.length := by omega
                      clear nc
                      go_wp2_with fail
                      refine (NA _ _).mono ?_
                      rintro e w5 ⟨rfl, rfl⟩
                      go_wp2_with fail
                      go_ret
                      exact ⟨rfl, hKK.out.2.trans k4⟩
                    · have hjei : ¬ (j : Int) = T.length := by omega
                      have hjl : j < T.length := by omega
                      have hjli : (j : Int) < T.length := by omega
                      obtain ⟨-, ⟨ta, tc, hv, htc⟩, -⟩ := HH.out w4 (hKK.out.2.trans k4)
                      cases hv
                      obtain ⟨tg, tof, rfl, t0⟩ := htc j hjl
                      generalize T[j]'hjl = tb at *
                      clear nc htc
                      cases tb
                      · have HQ : Hid (Reach p b true ∧ Keeps (fun _ => False) w3 w4) := ⟨hbr, hKK.out.1.trans k4⟩
                        go_wp2_with fail
                        refine (NA _ _).mono ?_
                        rintro e w5 ⟨rfl, rfl⟩
                        go_wp2_with fail
                        go_roundw
                        · exact ⟨j + 1, b, true, by simp, rfl, by simp, by omega, by omega, HQ.out⟩
                        · simp [intOf]; omega
                      · have HQ : Hid (Reach p b true ∧ Keeps (fun _ => False) w3 w4) := ⟨hbr, hKK.out.1.trans k4⟩
                        go_wp2_with fail
                        refine (NA _ _).mono ?_
                        rintro e w5 ⟨rfl, rfl⟩
                        go_wp2_with fail
                        go_roundw
                        · exact ⟨j + 1, b, true, by simp, rfl, by simp, by omega, by omega, HQ.out⟩
                        · simp [intOf]; omega
                  · have _u13 := trivial
                    by_cases c14 : op = 14
                    · subst c14
                      have hs : s = true := by
                        cases s
                        · exact absurd (hso rfl) (by decide)
                        · rfl
                      subst hs
                      clear hso hsi o0 o1
                      rw [show mM true = 2 from rfl] at cM ⊢
                      obtain ⟨b, rfl⟩ := one.out (by decide) (by decide)
                      clear one nine hlt
                      go_wp2_with fail
                      refine FA.mono ?_
                      intro e w4 hE
                      obtain ⟨k4, u4, rfl, n4⟩ := hEP.out e w4 hE
                      obtain ⟨ua, uc, rfl, nc⟩ := n4
                      have d4 := cell_keeps k4 d0
                      clear FA hE d0 cM
                      obtain ⟨ug, uo, rfl, x0⟩ := nc 0 (by simp)
                      simp only [List.map_cons, List.map_nil, List.length_cons, List.length_nil, Nat.zero_add, List.getElem_cons_zero, Nat.add_zero] at x0 ⊢
                      have hbr := (HF.out b (by simp)).2
                      rw [show sideB 14 true = true from rfl] at hbr
                      by_cases hje : j = T.length
                      · have hjei : (j : Int) = T.length := by omega
                        clear nc
                        go_wp2_with fail
                        refine (NA _ _).mono ?_
                        rintro e w5 ⟨rfl, rfl⟩
                        go_wp2_with fail
                        go_ret
                        exact ⟨rfl, hKK.out.2.trans k4⟩
                      · have hjei : ¬ (j : Int) = T.length := by omega
                        have hjl : j < T.length := by omega
                        have hjli : (j : Int) < T.length := by omega
                        obtain ⟨-, ⟨ta, tc, hv, htc⟩, -⟩ := HH.out w4 (hKK.out.2.trans k4)
                        cases hv
                        obtain ⟨tg, tof, rfl, t0⟩ := htc j hjl
                        generalize T[j]'hjl = tb at *
                        clear nc htc
                        cases tb
                        · have HQ : Hid (Reach p b true ∧ Keeps (fun _ => False) w3 w4) := ⟨hbr, hKK.out.1.trans k4⟩
                          go_wp2_with fail
                          refine (NA _ _).mono ?_
                          rintro e w5 ⟨rfl, rfl⟩
                          go_wp2_with fail
                          go_roundw
                          · exact ⟨j + 1, b, true, by simp, rfl, by simp, by omega, by omega, HQ.out⟩
                          · simp [intOf]; omega
                        · have HQ : Hid (Reach p b true ∧ Keeps (fun _ => False) w3 w4) := ⟨hbr, hKK.out.1.trans k4⟩
                          go_wp2_with fail
                          refine (NA _ _).mono ?_
                          rintro e w5 ⟨rfl, rfl⟩
                          go_wp2_with fail
                          go_roundw
                          · exact ⟨j + 1, b, true, by simp, rfl, by simp, by omega, by omega, HQ.out⟩
                          · simp [intOf]; omega
                    · have _u14 := trivial
                      by_cases c15 : op = 15
                      · subst c15
                        have hs : s = true := by
                          cases s
                          · exact absurd (hso rfl) (by decide)
                          · rfl
                        subst hs
                        clear hso hsi o0 o1
                        rw [show mM true = 2 from rfl] at cM ⊢
                        obtain ⟨b, rfl⟩ := one.out (by decide) (by decide)
                        clear one nine hlt
                        go_wp2_with fail
                        refine FA.mono ?_
                        intro e w4 hE
                        obtain ⟨k4, u4, rfl, n4⟩ := hEP.out e w4 hE
                        obtain ⟨ua, uc, rfl, nc⟩ := n4
                        have d4 := cell_keeps k4 d0
                        clear FA hE d0 cM
                        obtain ⟨ug, uo, rfl, x0⟩ := nc 0 (by simp)
                        simp only [List.map_cons, List.map_nil, List.length_cons, List.length_nil, Nat.zero_add, List.getElem_cons_zero, Nat.add_zero] at x0 ⊢
                        have hbr := (HF.out b (by simp)).2
                        rw [show sideB 15 true = false from rfl] at hbr
                        by_cases hje : j = T.length
                        · have hjei : (j : Int) = T.length := by omega
                          clear nc
                          go_wp2_with fail
                          refine (NA _ _).mono ?_
                          rintro e w5 ⟨rfl, rfl⟩
                          go_wp2_with fail
                          go_ret
                          exact ⟨rfl, hKK.out.2.trans k4⟩
                        · have hjei : ¬ (j : Int) = T.length := by omega
                          have hjl : j < T.length := by omega
                          have hjli : (j : Int) < T.length := by omega
                          obtain ⟨-, ⟨ta, tc, hv, htc⟩, -⟩ := HH.out w4 (hKK.out.2.trans k4)
                          cases hv
                          obtain ⟨tg, tof, rfl, t0⟩ := htc j hjl
                          generalize T[j]'hjl = tb at *
                          clear nc htc
                          cases tb
                          · have HQ : Hid (Reach p b false ∧ Keeps (fun _ => False) w3 w4) := ⟨hbr, hKK.out.1.trans k4⟩
                            go_wp2_with fail
                            refine (NA _ _).mono ?_
                            rintro e w5 ⟨rfl, rfl⟩
                            go_wp2_with fail
                            go_roundw
                            · exact ⟨j + 1, b, false, by simp, rfl, by simp, by omega, by omega, HQ.out⟩
                            · simp [intOf]; omega
                          · have HQ : Hid (Reach p b false ∧ Keeps (fun _ => False) w3 w4) := ⟨hbr, hKK.out.1.trans k4⟩
                            go_wp2_with fail
                            refine (NA _ _).mono ?_
                            rintro e w5 ⟨rfl, rfl⟩
                            go_wp2_with fail
                            go_roundw
                            · exact ⟨j + 1, b, false, by simp, rfl, by simp, by omega, by omega, HQ.out⟩
                            · simp [intOf]; omega
                      · have _u15 := trivial
                        by_cases c16 : op = 16
                        · subst c16
                          have hs : s = true := by
                            cases s
                            · exact absurd (hso rfl) (by decide)
                            · rfl
                          subst hs
                          clear hso hsi o0 o1
                          rw [show mM true = 2 from rfl] at cM ⊢
                          obtain ⟨b, rfl⟩ := one.out (by decide) (by decide)
                          clear one nine hlt
                          go_wp2_with fail
                          refine FA.mono ?_
                          intro e w4 hE
                          obtain ⟨k4, u4, rfl, n4⟩ := hEP.out e w4 hE
                          obtain ⟨ua, uc, rfl, nc⟩ := n4
                          have d4 := cell_keeps k4 d0
                          clear FA hE d0 cM
                          obtain ⟨ug, uo, rfl, x0⟩ := nc 0 (by simp)
                          simp only [List.map_cons, List.map_nil, List.length_cons, List.length_nil, Nat.zero_add, List.getElem_cons_zero, Nat.add_zero] at x0 ⊢
                          have hbr := (HF.out b (by simp)).2
                          rw [show sideB 16 true = false from rfl] at hbr
                          by_cases hje : j = T.length
                          · have hjei : (j : Int) = T.length := by omega
                            clear nc
                            go_wp2_with fail
                            refine (NA _ _).mono ?_
                            rintro e w5 ⟨rfl, rfl⟩
                            go_wp2_with fail
                            go_ret
                            exact ⟨rfl, hKK.out.2.trans k4⟩
                          · have hjei : ¬ (j : Int) = T.length := by omega
                            have hjl : j < T.length := by omega
                            have hjli : (j : Int) < T.length := by omega
                            obtain ⟨-, ⟨ta, tc, hv, htc⟩, -⟩ := HH.out w4 (hKK.out.2.trans k4)
                            cases hv
                            obtain ⟨tg, tof, rfl, t0⟩ := htc j hjl
                            generalize T[j]'hjl = tb at *
                            clear nc htc
                            cases tb
                            · have HQ : Hid (Reach p b false ∧ Keeps (fun _ => False) w3 w4) := ⟨hbr, hKK.out.1.trans k4⟩
                              go_wp2_with fail
                              refine (NA _ _).mono ?_
                              rintro e w5 ⟨rfl, rfl⟩
                              go_wp2_with fail
                              go_roundw
                              · exact ⟨j + 1, b, false, by simp, rfl, by simp, by omega, by omega, HQ.out⟩
                              · simp [intOf]; omega
                            · have HQ : Hid (Reach p b false ∧ Keeps (fun _ => False) w3 w4) := ⟨hbr, hKK.out.1.trans k4⟩
                              go_wp2_with fail
                              refine (NA _ _).mono ?_
                              rintro e w5 ⟨rfl, rfl⟩
                              go_wp2_with fail
                              go_roundw
                              · exact ⟨j + 1, b, false, by simp, rfl, by simp, by omega, by omega, HQ.out⟩
                              · simp [intOf]; omega
                        · have _u16 := trivial
                          by_cases c9 : op = 9
                          · subst c9
                            clear hso hsi o0 o1
                            rcases nine.out rfl with ⟨b, rfl⟩ | ⟨b, c, rfl⟩
                            · clear one nine hlt
                              go_wp2_with fail
                              refine FA.mono ?_
                              intro e w4 hE
                              obtain ⟨k4, u4, rfl, n4⟩ := hEP.out e w4 hE
                              obtain ⟨ua, uc, rfl, nc⟩ := n4
                              have d4 := cell_keeps k4 d0
                              clear FA hE d0 cM
                              obtain ⟨ug, uo, rfl, x0⟩ := nc 0 (by simp)
                              simp only [List.map_cons, List.map_nil, List.length_cons, List.length_nil, Nat.zero_add, List.getElem_cons_zero, Nat.add_zero] at x0 ⊢
                              have hbr := (HF.out b (by simp)).2
                              rw [side_same (by omega) (by omega) (by omega)] at hbr
                              by_cases hje : j = T.length
                              · have hjei : (j : Int) = T.length := by omega
                                clear nc
                                go_wp2_with fail
                                refine (NA _ _).mono ?_
                                rintro e w5 ⟨rfl, rfl⟩
                                go_wp2_with fail
                                go_ret
                                exact ⟨rfl, hKK.out.2.trans k4⟩
                              · have hjei : ¬ (j : Int) = T.length := by omega
                                have hjl : j < T.length := by omega
                                have hjli : (j : Int) < T.length := by omega
                                obtain ⟨-, ⟨ta, tc, hv, htc⟩, -⟩ := HH.out w4 (hKK.out.2.trans k4)
                                cases hv
                                obtain ⟨tg, tof, rfl, t0⟩ := htc j hjl
                                generalize T[j]'hjl = tb at *
                                clear nc htc
                                cases tb
                                · have HQ : Hid (Reach p b s ∧ Keeps (fun _ => False) w3 w4) := ⟨hbr, hKK.out.1.trans k4⟩
                                  go_wp2_with fail
                                  refine (NA _ _).mono ?_
                                  rintro e w5 ⟨rfl, rfl⟩
                                  go_wp2_with fail
                                  go_roundw
                                  · exact ⟨j + 1, b, s, by simp, rfl, by simp, by omega, by omega, HQ.out⟩
                                  · simp [intOf]; omega
                                · have HQ : Hid (Reach p b s ∧ Keeps (fun _ => False) w3 w4) := ⟨hbr, hKK.out.1.trans k4⟩
                                  go_wp2_with fail
                                  refine (NA _ _).mono ?_
                                  rintro e w5 ⟨rfl, rfl⟩
                                  go_wp2_with fail
                                  go_roundw
                                  · exact ⟨j + 1, b, s, by simp, rfl, by simp, by omega, by omega, HQ.out⟩
                                  · simp [intOf]; omega
                            · clear one nine hlt
                              go_wp2_with fail
                              refine FA.mono ?_
                              intro e w4 hE
                              obtain ⟨k4, u4, rfl, n4⟩ := hEP.out e w4 hE
                              obtain ⟨ua, uc, rfl, nc⟩ := n4
                              have d4 := cell_keeps k4 d0
                              clear FA hE d0 cM
                              obtain ⟨ug, uo, rfl, x0⟩ := nc 0 (by simp)
                              obtain ⟨ug', uo', hv, x1⟩ := nc 1 (by simp)
                              cases hv
                              simp only [List.map_cons, List.map_nil, List.length_cons, List.length_nil, Nat.zero_add, List.getElem_cons_zero, Nat.add_zero, List.getElem_cons_succ, Nat.reduceAdd] at x0 x1 ⊢
                              have hbr := (HF.out b (by simp)).2
                              have hcr := (HF.out c (by simp)).2
                              rw [side_same (by omega) (by omega) (by omega)] at hbr hcr
                              by_cases hje : j = T.length
                              · have hjei : (j : Int) = T.length := by omega
                                clear nc
                                go_wp2_with fail
                                refine (NA _ _).mono ?_
                                rintro e w5 ⟨rfl, rfl⟩
                                go_wp2_with fail
                                go_ret
                                exact ⟨rfl, hKK.out.2.trans k4⟩
                              · have hjei : ¬ (j : Int) = T.length := by omega
                                have hjl : j < T.length := by omega
                                have hjli : (j : Int) < T.length := by omega
                                obtain ⟨-, ⟨ta, tc, hv, htc⟩, -⟩ := HH.out w4 (hKK.out.2.trans k4)
                                cases hv
                                obtain ⟨tg, tof, rfl, t0⟩ := htc j hjl
                                generalize T[j]'hjl = tb at *
                                clear nc htc
                                cases tb
                                · have HQ : Hid (Reach p b s ∧ Keeps (fun _ => False) w3 w4) := ⟨hbr, hKK.out.1.trans k4⟩
                                  go_wp2_with fail
                                  refine (NA _ _).mono ?_
                                  rintro e w5 ⟨rfl, rfl⟩
                                  go_wp2_with fail
                                  go_roundw
                                  · exact ⟨j + 1, b, s, by simp, rfl, by simp, by omega, by omega, HQ.out⟩
                                  · simp [intOf]; omega
                                · have HQ : Hid (Reach p c s ∧ Keeps (fun _ => False) w3 w4) := ⟨hcr, hKK.out.1.trans k4⟩
                                  go_wp2_with fail
                                  refine (NA _ _).mono ?_
                                  rintro e w5 ⟨rfl, rfl⟩
                                  go_wp2_with fail
                                  go_roundw
                                  · exact ⟨j + 1, c, s, by simp, rfl, by simp, by omega, by omega, HQ.out⟩
                                  · simp [intOf]; omega
                          · obtain ⟨b, rfl⟩ := one.out c17 c9
                            clear one nine hlt hso hsi
                            go_wp2_with fail
                            refine FA.mono ?_
                            intro e w4 hE
                            obtain ⟨k4, u4, rfl, n4⟩ := hEP.out e w4 hE
                            obtain ⟨ua, uc, rfl, nc⟩ := n4
                            have d4 := cell_keeps k4 d0
                            clear FA hE d0 cM
                            obtain ⟨ug, uo, rfl, x0⟩ := nc 0 (by simp)
                            simp only [List.map_cons, List.map_nil, List.length_cons, List.length_nil, Nat.zero_add, List.getElem_cons_zero, Nat.add_zero] at x0 ⊢
                            have hbr := (HF.out b (by simp)).2
                            rw [side_same (by omega) (by omega) (by omega)] at hbr
                            by_cases hje : j = T.length
                            · have hjei : (j : Int) = T.length := by omega
                              clear nc
                              go_wp2_with fail
                              refine (NA _ _).mono ?_
                              rintro e w5 ⟨rfl, rfl⟩
                              go_wp2_with fail
                              go_ret
                              exact ⟨rfl, hKK.out.2.trans k4⟩
                            · have hjei : ¬ (j : Int) = T.length := by omega
                              have hjl : j < T.length := by omega
                              have hjli : (j : Int) < T.length := by omega
                              obtain ⟨-, ⟨ta, tc, hv, htc⟩, -⟩ := HH.out w4 (hKK.out.2.trans k4)
                              cases hv
                              obtain ⟨tg, tof, rfl, t0⟩ := htc j hjl
                              generalize T[j]'hjl = tb at *
                              clear nc htc
                              cases tb
                              · have HQ : Hid (Reach p b s ∧ Keeps (fun _ => False) w3 w4) := ⟨hbr, hKK.out.1.trans k4⟩
                                go_wp2_with fail
                                refine (NA _ _).mono ?_
                                rintro e w5 ⟨rfl, rfl⟩
                                go_wp2_with fail
                                go_roundw
                                · exact ⟨j + 1, b, s, by simp, rfl, by simp, by omega, by omega, HQ.out⟩
                                · simp [intOf]; omega
                              · have HQ : Hid (Reach p b s ∧ Keeps (fun _ => False) w3 w4) := ⟨hbr, hKK.out.1.trans k4⟩
                                go_wp2_with fail
                                refine (NA _ _).mono ?_
                                rintro e w5 ⟨rfl, rfl⟩
                                go_wp2_with fail
                                go_roundw
                                · exact ⟨j + 1, b, s, by simp, rfl, by simp, by omega, by omega, HQ.out⟩
                                · simp [intOf]; omega
        · have hj6i : ¬ (j : Int) < 5000 := by omega
          obtain ⟨hR, hK⟩ := hh.out
          clear hh
          go_wp2_with fail
          go_ret
          exact ⟨rfl, K2.trans hK⟩
      · have hji : ¬ (j : Int) ≤ T.length := by omega
        obtain ⟨hR, hK⟩ := hh.out
        clear hh
        go_wp2_with fail
        go_ret
        exact ⟨rfl, K2.trans hK⟩
  · obtain rfl := hno hv
    have PA := program_any _ p w2 (HH.out w2 K2).1 (HH.out w2 K2).2.2
    generalize (verd p).2 = b at *
    generalize (verd p).1 = c at *
    unfold wrV at PA
    clear hok hno
    go_wp2_with fail
    refine (NA _ _).mono ?_
    rintro e w3 ⟨rfl, rfl⟩
    go_wp2_with fail
    refine PA.mono ?_
    rintro e w4 ⟨rfl, k4⟩
    go_wp2_with fail
    go_ret
    exact ⟨by simp, K2.trans k4⟩
end Go.Proofs.YtljapgoeomedkaaDoor
