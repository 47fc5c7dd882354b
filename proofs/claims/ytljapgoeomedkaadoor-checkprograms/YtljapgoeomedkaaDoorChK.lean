
/- Lists of numbers compared; programs lent; the programs that the document names. No statement of the seat is proved here. -/
import Derived.Test.YtljapgoeomedkaaDoorChJ
namespace Go.Proofs.YtljapgoeomedkaaDoor
open Go.RowKit Go.Shelf

/-- Numbers where they lie. -/
def NumAt (w : World) (v : Value) (L : List Int) : Prop := ∃ a cap, v = .slice a L.length cap ∧ ∀ k (hk : k < L.length), ∃ g off, a = some ⟨g, off, none⟩ ∧ w.cell? ⟨g, off + k, none⟩ = some (.int .i64 (L[k]'hk))
theorem NumAt.keeps {w w' : World} {v : Value} {L : List Int} (h : NumAt w v L) (k : Keeps (fun _ => False) w w') : NumAt w' v L := by
  obtain ⟨a, cap, hv, hc⟩ := h
  refine ⟨a, cap, hv, fun j hj => ?_⟩
  obtain ⟨g, off, e, c⟩ := hc j hj
  refine ⟨g, off, e, ?_⟩
  rw [← c]
  simp [World.cell?, k.block g (World.block_lt_of_cell? _ _ c) (fun f => f)]
theorem Its.num {w : World} {base : Nat} {v : Value} {L : List Int} (h : Its w base v L) : NumAt w v L := by
  obtain ⟨b, c, rfl⟩ := h.form
  refine ⟨b, c, rfl, fun k hk => ?_⟩
  obtain ⟨g, e, _, q⟩ := h.at k hk
  exact ⟨g, 0, e, by simpa using q⟩
theorem num_block {w : World} {g n : Nat} {cs : Array Value} {t : TypeId} {L : List Int} (hb : w.heap[g]? = some (.cells cs t (0, 0))) (hn : n = L.length) (hc : ∀ k (hk : k < L.length), cs[k]? = some (.int .i64 (L[k]'hk))) (cap : Nat) : NumAt w (.slice (some ⟨g, 0, none⟩) n cap) L := by
  subst hn
  exact ⟨_, cap, rfl, fun k hk => ⟨g, 0, rfl, by rw [cell_of_block hb, Nat.zero_add]; exact hc k hk⟩⟩
theorem num_nil (w : World) : NumAt w (.slice none 0 0) [] := ⟨none, 0, rfl, fun k hk => by simp at hk⟩

set_option maxRecDepth 100000 in
set_option maxHeartbeats 4000000 in
theorem sameints_any (va vb : Value) (L : List Int) (hL : L.length ≤ 1048576) (w : World) (ha : NumAt w va L) (hb : NumAt w vb L) : Calls Tryd.prog 25 #[va, vb] w fun e w' => e = .returned (.bool true) ∧ Keeps (fun _ => False) w w' := by
  have HA : Hid (∀ X, Keeps (fun _ => False) w X → NumAt X va L) := fun X k => ha.keeps k
  have HB : Hid (∀ X, Keeps (fun _ => False) w X → NumAt X vb L) := fun X k => hb.keeps k
  have k0 := Keeps.refl (fun _ => False) w
  obtain ⟨a0, c0, rfl, -⟩ := ha
  obtain ⟨a1, c1, rfl, -⟩ := hb
  go_enter Tryd.func25, Tryd.ntmps25
  go_wp2_with fail
  go_loopw [5] (fun u wr => ∃ (k : Nat), u = .int .i64 k ∧ k ≤ L.length ∧ Keeps (fun _ => False) w wr) (fun u _ => L.length - (intOf u).toNat)
  case atStart => exact ⟨0, rfl, Nat.zero_le _, k0⟩
  case round =>
    obtain ⟨k, rfl, hk, kr⟩ := hrel
    by_cases hlt : k < L.length
    · obtain ⟨a', c', hv, hc⟩ := HA.out wr kr
      cases hv
      obtain ⟨ga, off, rfl, x0⟩ := hc k hlt
      obtain ⟨a', c', hv, hd⟩ := HB.out wr kr
      cases hv
      obtain ⟨gb, offb, rfl, y0⟩ := hd k hlt
      have hki : (k : Int) < L.length := by omega
      generalize L[k]'hlt = i at *
      clear hc hd
      go_wp2_with fail
      go_quiet (fail)
      go_wp2_with fail
      go_roundw
      · exact ⟨k + 1, by simp, by omega, kr.drewN _⟩
      · simp [intOf]; omega
    · obtain rfl : k = L.length := by omega
      go_wp2_with fail
      go_ret
      exact ⟨rfl, kr⟩
set_option maxRecDepth 100000 in
set_option maxHeartbeats 4000000 in
theorem samemodes_any (va vb : Value) (L : List Int) (hL : L.length ≤ 1048576) (w : World) (ha : NumAt w va L) (hb : NumAt w vb L) : Calls Tryd.prog 19 #[va, vb] w fun e w' => e = .returned (.bool true) ∧ Keeps (fun _ => False) w w' := by
  have HA : Hid (∀ X, Keeps (fun _ => False) w X → NumAt X va L) := fun X k => ha.keeps k
  have HB : Hid (∀ X, Keeps (fun _ => False) w X → NumAt X vb L) := fun X k => hb.keeps k
  have k0 := Keeps.refl (fun _ => False) w
  obtain ⟨a0, c0, rfl, -⟩ := ha
  obtain ⟨a1, c1, rfl, -⟩ := hb
  go_enter Tryd.func19, Tryd.ntmps19
  go_wp2_with fail
  go_loopw [5] (fun u wr => ∃ (k : Nat), u = .int .i64 k ∧ k ≤ L.length ∧ Keeps (fun _ => False) w wr) (fun u _ => L.length - (intOf u).toNat)
  case atStart => exact ⟨0, rfl, Nat.zero_le _, k0⟩
  case round =>
    obtain ⟨k, rfl, hk, kr⟩ := hrel
    by_cases hlt : k < L.length
    · obtain ⟨a', c', hv, hc⟩ := HA.out wr kr
      cases hv
      obtain ⟨ga, off, rfl, x0⟩ := hc k hlt
      obtain ⟨a', c', hv, hd⟩ := HB.out wr kr
      cases hv
      obtain ⟨gb, offb, rfl, y0⟩ := hd k hlt
      have hki : (k : Int) < L.length := by omega
      generalize L[k]'hlt = i at *
      clear hc hd
      go_wp2_with fail
      go_quiet (fail)
      go_wp2_with fail
      go_roundw
      · exact ⟨k + 1, by simp, by omega, kr.drewN _⟩
      · simp [intOf]; omega
    · obtain rfl : k = L.length := by omega
      go_wp2_with fail
      go_ret
      exact ⟨rfl, kr⟩
theorem num_any (n : Int) (w : World) : Calls Tryd.prog 18 #[.int .i64 n] w fun e w' => e = .returned (.int .i64 n) ∧ w' = w := by
  go_enter Tryd.func18, Tryd.ntmps18
  go_wp2
  go_ret
  exact ⟨rfl, rfl⟩

@[go_sem] theorem eq_wrong (a b c d : Int) (w : World) : (Op.equalIn 10000 40 (.agg #[.int .i64 a, .int .i64 b]) (.agg #[.int .i64 c, .int .i64 d])).run Tryd.prog w = .ok (a == c && b == d) w := by
  have u3 := Tryd.underlying3
  have a3 := Tryd.isAgg3
  have z3 := Tryd.sizeOf3
  have u4 := Tryd.underlying25
  have a4 := Tryd.isAgg25
  have z4 := Tryd.sizeOf25
  have hS : Tryd.prog.underlying 40 = some (.struct (Tryd.prog.fieldsOf 40)) := by kernel_rfl
  rw [show (10000 : Nat) = 9999 + 1 from rfl, run_equalIn_agg w 9999 40 _ _ hS (by kernel_rfl)]
  simp only [Program.fieldsOf, Tryd.underlying40]
  go_simp
  by_cases h1 : a = c <;> by_cases h2 : b = d <;> simp [h1, h2]
/-- Instructions in a new block. -/
theorem ins_block {w : World} {g : Nat} {L : List I5} (hb : w.heap[g]? = some (.cells (insV L).toArray 50 (0, 0))) (hwf : ∀ i ∈ L, i.wf) (hl : L.length * 40 ≤ 140737488355328) : InsAt w (.slice (some ⟨g, 0, none⟩) L.length L.length) L := by
  have h : Irs w g (.slice (some ⟨g, 0, none⟩) L.length L.length) L := by
    refine ⟨⟨insV_len L, .inr ⟨g, L.length, _, rfl, Nat.le_refl _, hb, Nat.le_refl _, ?_, ?_, ?_⟩⟩, Nat.le_of_lt (lt_of_block hb)⟩
    · simp only [maxLen]; omega
    · simp [insV_len]
    · simp [← insV_len]
  exact h.insAt hwf hl

theorem reachB_eq' {p : List I5} {L : List (Nat × Bool)} (h0 : (0, false) ∈ L) (hc : ∀ x ∈ L, ∀ b ∈ folL (at5 p x.1) x.1, b < p.length → (b, sideB (at5 p x.1).op x.2) ∈ L) (hr : ∀ x ∈ L, Reach p x.1 x.2) : reachB p = fun a s => decide ((a, s) ∈ L) :=
  reachB_eq h0 (fun x hx i hi b hb hlt => by
    have e : i = at5 p x.1 := by simp [at5, hi]
    subst e
    exact hc x hx b hb hlt) hr
def goodL : List I5 := [⟨12, 0, 0, 0, 0⟩, ⟨13, 0, 1, 0, 0⟩, ⟨15, 0, 0, 0, 0⟩, ⟨17, 0, 0, 0, 0⟩]
def badL : List I5 := [⟨9, 0, 0, 0, 2⟩, ⟨12, 0, 0, 0, 0⟩, ⟨15, 0, 0, 0, 0⟩, ⟨17, 0, 0, 0, 0⟩]
theorem good_reach : reachB goodL = fun a s => decide ((a, s) ∈ [((0 : Nat), false), (1, true), (2, true), (3, false)]) := by
  have r0 : Reach goodL 0 false := .start
  have r1 : Reach goodL 1 true := .step (b := 1) r0 (i := ⟨12, 0, 0, 0, 0⟩) rfl (by decide) (by decide)
  have r2 : Reach goodL 2 true := .step (b := 2) r1 (i := ⟨13, 0, 1, 0, 0⟩) rfl (by decide) (by decide)
  have r3 : Reach goodL 3 false := .step (b := 3) r2 (i := ⟨15, 0, 0, 0, 0⟩) rfl (by decide) (by decide)
  refine reachB_eq' (by decide) (by decide) ?_
  intro x hx
  simp at hx
  rcases hx with rfl | rfl | rfl | rfl <;> assumption
theorem bad_reach : reachB badL = fun a s => decide ((a, s) ∈ [((0 : Nat), false), (1, false), (2, false), (2, true), (3, false)]) := by
  have r0 : Reach badL 0 false := .start
  have r1 : Reach badL 1 false := .step (b := 1) r0 (i := ⟨9, 0, 0, 0, 2⟩) rfl (by decide) (by decide)
  have r2 : Reach badL 2 false := .step (b := 2) r0 (i := ⟨9, 0, 0, 0, 2⟩) rfl (by decide) (by decide)
  have r3 : Reach badL 2 true := .step (b := 2) r1 (i := ⟨12, 0, 0, 0, 0⟩) rfl (by decide) (by decide)
  have r4 : Reach badL 3 false := .step (b := 3) r2 (i := ⟨15, 0, 0, 0, 0⟩) rfl (by decide) (by decide)
  refine reachB_eq' (by decide) (by decide) ?_
  intro x hx
  simp at hx
  rcases hx with rfl | rfl | rfl | rfl | rfl <;> assumption
theorem good_verd : verd goodL = (-1, 0) := by
  unfold verd; rw [good_reach]; kernel_rfl
theorem bad_verd : verd badL = (2, 204) := by
  unfold verd; rw [bad_reach]; kernel_rfl
theorem none_verd : verd [] = (-1, 200) := verd_count (.inl (by decide))
theorem good_modes : mds goodL.length (modeN goodL) = #[.int .i64 1, .int .i64 2, .int .i64 2, .int .i64 1] := by
  have : modeN goodL = fun k => modeB (decide ((k, false) ∈ [((0 : Nat), false), (1, true), (2, true), (3, false)])) (decide ((k, true) ∈ [((0 : Nat), false), (1, true), (2, true), (3, false)])) := by
    funext k
    unfold modeN
    rw [good_reach]
  exact (congrArg (mds goodL.length) this).trans (by kernel_rfl)
theorem wf_lit : (∀ i ∈ goodL, i.wf) ∧ ∀ i ∈ badL, i.wf := by
  constructor
  · intro i hi; simp [goodL] at hi; rcases hi with rfl | rfl | rfl | rfl <;> (unfold I5.wf; decide)
  · intro i hi; simp [badL] at hi; rcases hi with rfl | rfl | rfl | rfl <;> (unfold I5.wf; decide)

set_option maxRecDepth 100000 in
set_option maxHeartbeats 4000000 in
theorem known_any (w : World) (hG : Gb w) : Calls Tryd.prog 23 #[] w fun e w' => e = .returned (.bool true) ∧ Keeps (fun _ => False) w w' := by
  obtain ⟨W, hW⟩ : ∃ W, W = (w.alloc (.cells (insV goodL).toArray 50)).alloc (.cells (insV badL).toArray 50) := ⟨_, rfl⟩
  have k0 : Keeps (fun _ => False) w W := by rw [hW]; exact ((Keeps.refl _ _).alloc _).alloc _
  have IG : InsAt W (.slice (some ⟨w.heap.size, 0, none⟩) 4 4) goodL := ins_block (by rw [hW]; exact heap_alloc2_old _ _ _) wf_lit.1 (by decide)
  have IB : InsAt W (.slice (some ⟨w.heap.size + 1, 0, none⟩) 4 4) badL := ins_block (by rw [hW]; exact heap_alloc2_new _ _ _) wf_lit.2 (by decide)
  have IN : ∀ X, InsAt X (.slice none 0 0) [] := fun X => ⟨⟨none, 0, rfl, fun k hk => by simp at hk⟩, by simp, by simp⟩
  have MA := modes_any _ goodL W IG (hG.keeps k0)
  have HP : Hid (∀ X, Keeps (fun _ => False) W X → Calls Tryd.prog 16 #[.slice (some ⟨w.heap.size, 0, none⟩) 4 4] X (fun e w' => e = .returned (.agg (wrV (-1) 0)) ∧ Keeps (fun _ => False) X w') ∧ Calls Tryd.prog 16 #[.slice (some ⟨w.heap.size + 1, 0, none⟩) 4 4] X (fun e w' => e = .returned (.agg (wrV 2 204)) ∧ Keeps (fun _ => False) X w') ∧ Calls Tryd.prog 16 #[.slice none 0 0] X (fun e w' => e = .returned (.agg (wrV (-1) 200)) ∧ Keeps (fun _ => False) X w')) := fun X kX => by
    have a := program_any _ goodL X (IG.keeps kX) (hG.keeps (k0.trans kX))
    have b := program_any _ badL X (IB.keeps kX) (hG.keeps (k0.trans kX))
    have c := program_any _ [] X (IN X) (hG.keeps (k0.trans kX))
    rw [good_verd] at a
    rw [bad_verd] at b
    rw [none_verd] at c
    exact ⟨a, b, c⟩
  have HK : Hid (Keeps (fun _ => False) w W) := k0
  have NA := num_any
  rw [hW] at MA HP
  clear IG IB IN k0
  go_enter Tryd.func23, Tryd.ntmps23
  go_wp2_with fail
  refine MA.mono ?_
  rintro e w1 ⟨mv, rfl, k1, hok, -⟩
  obtain ⟨g, rfl, hg, hB⟩ := hok (by rw [good_verd])
  rw [good_modes] at hB
  rw [good_verd]
  clear hok MA
  have HB : Hid (∀ X, Keeps (fun _ => False) w1 X → X.heap[g]? = some (.cells #[.int .i64 1, .int .i64 2, .int .i64 2, .int .i64 1] 70 (0, 0))) := fun X k => (k.block _ (lt_of_block hB) (fun f => f)).trans hB
  clear hB hg
  go_wp2_with fail
  refine (HP.out w1 k1).1.mono ?_
  rintro e w2 ⟨rfl, k2⟩
  unfold wrV
  go_wp2_with fail
  refine (HP.out w2 (k1.trans k2)).2.1.mono ?_
  rintro e w3 ⟨rfl, k3⟩
  unfold wrV
  go_wp2_with fail
  refine (HP.out w3 ((k1.trans k2).trans k3)).2.2.mono ?_
  rintro e w4 ⟨rfl, k4⟩
  unfold wrV
  go_wp2_with fail
  refine (NA _ _).mono ?_
  rintro e w5 ⟨rfl, rfl⟩
  have k5 := (k2.trans k3).trans k4
  have ka := (Keeps.refl (fun _ => False) w5).alloc (.cells #[.int .i64 1, .int .i64 2, .int .i64 2, .int .i64 1] 70)
  have NL := num_block (L := [1, 2, 2, 1]) (n := 4) (HB.out _ (k5.trans ka)) rfl (fun k hk => by
    have : k = 0 ∨ k = 1 ∨ k = 2 ∨ k = 3 := by simp at hk; omega
    rcases this with rfl | rfl | rfl | rfl <;> rfl) 4
  have NM := num_block (L := [1, 2, 2, 1]) (n := 4) (heap_alloc_new w5 (.cells #[.int .i64 1, .int .i64 2, .int .i64 2, .int .i64 1] 70)) rfl (fun k hk => by
    have : k = 0 ∨ k = 1 ∨ k = 2 ∨ k = 3 := by simp at hk; omega
    rcases this with rfl | rfl | rfl | rfl <;> rfl) 4
  have SM := samemodes_any _ _ _ (by decide) _ NL NM
  rw [hW] at HK
  have KF := ((HK.out.trans k1).trans k5).trans ka
  clear NL NM HB HP NA k2 k3 k4 hW HK
  go_wp2_with fail
  refine SM.mono ?_
  rintro e w6 ⟨rfl, k6⟩
  go_wp2_with fail
  go_ret
  exact ⟨rfl, KF.trans k6⟩
end Go.Proofs.YtljapgoeomedkaaDoor
