/-
  No statement of the seat is proved here. (Several texts in one: AxF, AyA.)
-/
import Derived.Test.YtppejcfghlpbjaaGreatDoorM12AxA
import Derived.Test.YtppejcfghlpbjaaGreatDoorM07AsN
import Derived.Lib.CutLaws
import Derived.Lib.ParseIntBMem
import Derived.Lib.AppendIntMem

/- Walk of the document's SameScript of equals (package parleyref09). No statement of the seat is proved here. -/
namespace Go.Proofs.YtppejcfghlpbjaaGreatDoor
open Go.RowKit Go.Shelf

set_option maxRecDepth 100000 in
set_option maxHeartbeats 20000000 in
theorem rsamescr_any (c : Int) (vf vp vk uf up uk : Value) (x : Sc) (h1 : x.first.length ≤ 1048576) (h2 : x.progs.length ≤ 1048576) (h3 : x.picks.length ≤ 1048576) (h4 : ∀ p ∈ x.progs, p.length ≤ 1048576) (w : World) (ha : ScAt w vf vp vk x) (hb : ScAt w uf up uk x) :
    Calls Tryz.prog 12 #[.agg #[.int .i64 c, vf, vp, vk], .agg #[.int .i64 c, uf, up, uk]] w fun e w' => e = .returned (.bool true) ∧ Keeps (fun _ => False) w w' := by
  have hmx : Tryz.prog.follows .mixedOrders = true := by kernel_rfl
  have HA : Hid (∀ X, Keeps (fun _ => False) w X → ScAt X vf vp vk x) := fun X k => ha.keeps k
  have HB : Hid (∀ X, Keeps (fun _ => False) w X → ScAt X uf up uk x) := fun X k => hb.keeps k
  have H4 : Hid (∀ p ∈ x.progs, p.length ≤ 1048576) := h4
  obtain ⟨⟨fa, fc, rfl, lf, _⟩, ⟨pa, pc, rfl, lp, _⟩, ⟨ka, kc, rfl, lk, _⟩⟩ := ha
  obtain ⟨⟨fa2, fc2, rfl, lf2, _⟩, ⟨pa2, pc2, rfl, lp2, _⟩, ⟨ka2, kc2, rfl, lk2, _⟩⟩ := hb
  obtain ⟨W1, hW1⟩ : ∃ W, W = (w.alloc (.cells #[.int .i64 c, .slice fa x.first.length fc, .slice pa x.progs.length pc, .slice ka x.picks.length kc] 26)).alloc (.cells #[.int .i64 c, .slice fa2 x.first.length fc2, .slice pa2 x.progs.length pc2, .slice ka2 x.picks.length kc2] 26) := ⟨_, rfl⟩
  have k1 : Keeps (fun _ => False) w W1 := by rw [hW1]; exact ((Keeps.refl (fun _ => False) w).alloc _).alloc _
  have bA : W1.heap[w.heap.size]? = some (.cells #[.int .i64 c, .slice fa x.first.length fc, .slice pa x.progs.length pc, .slice ka x.picks.length kc] 26 (0, 0)) := by rw [hW1]; exact ((MapKept.heap_alloc _ _).2 _ (lt_of_block (alloc_block w _))).trans (alloc_block w _)
  have bB : W1.heap[w.heap.size + 1]? = some (.cells #[.int .i64 c, .slice fa2 x.first.length fc2, .slice pa2 x.progs.length pc2, .slice ka2 x.picks.length kc2] 26 (0, 0)) := by rw [hW1]; exact heap_two w _ _
  have HC : Hid ((W1.cell? ⟨w.heap.size, 1, none⟩ = some (.slice fa x.first.length fc) ∧ W1.cell? ⟨w.heap.size, 2, none⟩ = some (.slice pa x.progs.length pc) ∧ W1.cell? ⟨w.heap.size, 3, none⟩ = some (.slice ka x.picks.length kc)) ∧ (W1.cell? ⟨w.heap.size + 1, 1, none⟩ = some (.slice fa2 x.first.length fc2) ∧ W1.cell? ⟨w.heap.size + 1, 2, none⟩ = some (.slice pa2 x.progs.length pc2) ∧ W1.cell? ⟨w.heap.size + 1, 3, none⟩ = some (.slice ka2 x.picks.length kc2))) :=
    ⟨⟨by rw [cell_of_block bA]; rfl, by rw [cell_of_block bA]; rfl, by rw [cell_of_block bA]; rfl⟩, ⟨by rw [cell_of_block bB]; rfl, by rw [cell_of_block bB]; rfl, by rw [cell_of_block bB]; rfl⟩⟩
  have HW1 : Hid (W1 = (w.alloc (.cells #[.int .i64 c, .slice fa x.first.length fc, .slice pa x.progs.length pc, .slice ka x.picks.length kc] 26)).alloc (.cells #[.int .i64 c, .slice fa2 x.first.length fc2, .slice pa2 x.progs.length pc2, .slice ka2 x.picks.length kc2] 26)) := hW1
  have K1 : Hid (Keeps (fun _ => False) w W1) := k1
  have k0 : Hid (Keeps (fun _ => False) W1 W1) := Keeps.refl _ _
  clear hW1 k1 bA bB
  go_enter Tryz.func12, Tryz.ntmps12
  go_wp2_with fail
  rw [← HW1.out]
  go_loopw [5] (fun u wq => ∃ k : Nat, u = .int .i64 (k : Int) ∧ k ≤ x.first.length ∧ Hid (Keeps (fun _ => False) W1 wq)) (fun u _ => x.first.length - (intOf u).toNat)
  case atStart => exact ⟨0, rfl, Nat.zero_le _, k0⟩
  case round =>
    obtain ⟨k, rfl, hk, kr⟩ := hrel
    have y0 := cell_keep kr.out HC.out.1.1
    have y1 := cell_keep kr.out HC.out.2.1
    by_cases hlt : k < x.first.length
    · have hki : (k : Int) < x.first.length := by omega
      obtain ⟨⟨_, _, e1, _, q1⟩, _, _⟩ := HA.out wr (K1.out.trans kr.out)
      obtain ⟨⟨_, _, e2, _, q2⟩, _, _⟩ := HB.out wr (K1.out.trans kr.out)
      simp only [Value.slice.injEq] at e1 e2
      obtain ⟨rfl, -, rfl⟩ := e1
      obtain ⟨rfl, -, rfl⟩ := e2
      obtain ⟨g, off, rfl, cx⟩ := q1 k hlt
      obtain ⟨g2, off2, rfl, cy⟩ := q2 k hlt
      have hkc : (k : Int) < fc := by omega
      have hkc2 : (k : Int) < fc2 := by omega
      generalize x.first[k] = y at *
      clear q1 q2
      have fin : ∀ j, Hid (Keeps (fun _ => False) W1 (wr.drewN j)) := fun j => kr.out.drewN j
      go_wp2_with fail
      go_quiet (fail)
      go_wp2_with fail
      go_roundw
      · exact ⟨k + 1, by simp, by omega, fin _⟩
      · simp [intOf]; omega
    · have hki : ¬ (k : Int) < x.first.length := by omega
      have k0 := kr
      clear hk y1
      go_wp2_with fail
      clear kr y0
      go_loopw [6] (fun u wq => ∃ k : Nat, u = .int .i64 (k : Int) ∧ k ≤ x.picks.length ∧ Hid (Keeps (fun _ => False) W1 wq)) (fun u _ => x.picks.length - (intOf u).toNat)
      case atStart => exact ⟨0, rfl, Nat.zero_le _, k0⟩
      case round =>
        obtain ⟨k, rfl, hk, kr⟩ := hrel
        have y0 := cell_keep kr.out HC.out.1.2.2
        have y1 := cell_keep kr.out HC.out.2.2.2
        by_cases hlt : k < x.picks.length
        · have hki : (k : Int) < x.picks.length := by omega
          obtain ⟨_, _, ⟨_, _, e1, _, q1⟩⟩ := HA.out wr (K1.out.trans kr.out)
          obtain ⟨_, _, ⟨_, _, e2, _, q2⟩⟩ := HB.out wr (K1.out.trans kr.out)
          simp only [Value.slice.injEq] at e1 e2
          obtain ⟨rfl, -, rfl⟩ := e1
          obtain ⟨rfl, -, rfl⟩ := e2
          obtain ⟨g, off, rfl, cx⟩ := q1 k hlt
          obtain ⟨g2, off2, rfl, cy⟩ := q2 k hlt
          have hkc : (k : Int) < kc := by omega
          have hkc2 : (k : Int) < kc2 := by omega
          generalize x.picks[k] = y at *
          clear q1 q2
          have fin : ∀ j, Hid (Keeps (fun _ => False) W1 (wr.drewN j)) := fun j => kr.out.drewN j
          go_wp2_with fail
          go_quiet (fail)
          go_wp2_with fail
          go_roundw
          · exact ⟨k + 1, by simp, by omega, fin _⟩
          · simp [intOf]; omega
        · have hki : ¬ (k : Int) < x.picks.length := by omega
          have k0 := kr
          clear hk y1
          go_wp2_with fail
          clear kr y0
          go_loopw [7] (fun u wq => ∃ k : Nat, u = .int .i64 (k : Int) ∧ k ≤ x.progs.length ∧ Hid (Keeps (fun _ => False) W1 wq)) (fun u _ => x.progs.length - (intOf u).toNat)
          case atStart => exact ⟨0, rfl, Nat.zero_le _, k0⟩
          case round =>
            obtain ⟨k, rfl, hk, kr⟩ := hrel
            have y0 := cell_keep kr.out HC.out.1.2.1
            have y1 := cell_keep kr.out HC.out.2.2.1
            by_cases hlt : k < x.progs.length
            · have hki : (k : Int) < x.progs.length := by omega
              obtain ⟨_, ⟨_, _, e1, _, q1⟩, _⟩ := HA.out wr.drew ((K1.out.trans kr.out).drewN 1)
              obtain ⟨_, ⟨_, _, e2, _, q2⟩, _⟩ := HB.out wr.drew ((K1.out.trans kr.out).drewN 1)
              simp only [Value.slice.injEq] at e1 e2
              obtain ⟨rfl, -, rfl⟩ := e1
              obtain ⟨rfl, -, rfl⟩ := e2
              obtain ⟨g, off, va, rfl, cx, ia⟩ := q1 k hlt
              obtain ⟨g2, off2, vb, rfl, cy, ib⟩ := q2 k hlt
              have hkc : (k : Int) < pc := by omega
              have hkc2 : (k : Int) < pc2 := by omega
              have SA := rsame_any va vb (x.progs[k]) (H4.out _ (List.getElem_mem hlt)) wr.drew ia ib
              have hva := ia.form
              have hvb := ib.form
              obtain ⟨aa, ac, rfl, -⟩ := hva
              obtain ⟨ba, bc, rfl, -⟩ := hvb
              have kd : Hid (Keeps (fun _ => False) W1 wr.drew) := kr.out.drewN 1
              have y0d : wr.drew.cell? ⟨w.heap.size, 2, none⟩ = _ := y0
              have y1d : wr.drew.cell? ⟨w.heap.size + 1, 2, none⟩ = _ := y1
              generalize (x.progs[k]).length = pl at *
              clear q1 q2 ia ib
              go_wp2_with fail
              refine wp_held_end (S := fun X : World => X.cell? ⟨w.heap.size, 2, none⟩ = some (.slice (some ⟨g, off, none⟩) x.progs.length pc) ∧ X.cell? ⟨w.heap.size + 1, 2, none⟩ = some (.slice (some ⟨g2, off2, none⟩) x.progs.length pc2) ∧ X.cell? ⟨g, off + k, none⟩ = some (.slice aa pl ac) ∧ X.cell? ⟨g2, off2 + k, none⟩ = some (.slice ba pl bc) ∧ Keeps (fun _ => False) W1 X) 12 rfl hmx ?_
              generalize wr.drew = Vd at *
              simp only [Array.replicate_succ, Array.replicate_zero, List.push_toArray, List.nil_append, List.cons_append]
              have ST : (fun X : World => X.cell? ⟨w.heap.size, 2, none⟩ = some (.slice (some ⟨g, off, none⟩) x.progs.length pc) ∧ X.cell? ⟨w.heap.size + 1, 2, none⟩ = some (.slice (some ⟨g2, off2, none⟩) x.progs.length pc2) ∧ X.cell? ⟨g, off + k, none⟩ = some (.slice aa pl ac) ∧ X.cell? ⟨g2, off2 + k, none⟩ = some (.slice ba pl bc) ∧ Keeps (fun _ => False) W1 X) Vd := ⟨y0d, y1d, cx, cy, kd.out⟩
              refine held_take (i := 0) (v := .pointer (some ⟨w.heap.size, 2, none⟩)) 84 rfl rfl (by kernel_rfl) (by kernel_rfl) (by kernel_rfl) rfl (fun w' hw' => by obtain ⟨r0, r1, r2, r3, r4⟩ := hw'; go_simp) ST ?_
              simp only [Act.put, List.setIfInBounds_toArray, List.set_cons_zero, List.set_cons_succ]
              refine held_take (i := 1) (v := .slice (some ⟨g, off, none⟩) x.progs.length pc) 85 rfl rfl (by kernel_rfl) (by kernel_rfl) (by kernel_rfl) rfl (fun w' hw' => by obtain ⟨r0, r1, r2, r3, r4⟩ := hw'; go_simp) ST ?_
              simp only [Act.put, List.setIfInBounds_toArray, List.set_cons_zero, List.set_cons_succ]
              refine held_take (i := 2) (v := .int .i64 (k : Int)) 86 rfl rfl (by kernel_rfl) (by kernel_rfl) (by kernel_rfl) rfl (fun w' hw' => by obtain ⟨r0, r1, r2, r3, r4⟩ := hw'; go_simp) ST ?_
              simp only [Act.put, List.setIfInBounds_toArray, List.set_cons_zero, List.set_cons_succ]
              refine held_take (i := 3) (v := .pointer (some ⟨g, off + k, none⟩)) 87 rfl rfl (by kernel_rfl) (by kernel_rfl) (by kernel_rfl) rfl (fun w' hw' => by obtain ⟨r0, r1, r2, r3, r4⟩ := hw'; go_simp) ST ?_
              simp only [Act.put, List.setIfInBounds_toArray, List.set_cons_zero, List.set_cons_succ]
              refine held_take (i := 4) (v := .slice aa pl ac) 88 rfl rfl (by kernel_rfl) (by kernel_rfl) (by kernel_rfl) rfl (fun w' hw' => by obtain ⟨r0, r1, r2, r3, r4⟩ := hw'; go_simp) ST ?_
              simp only [Act.put, List.setIfInBounds_toArray, List.set_cons_zero, List.set_cons_succ]
              refine held_take (i := 5) (v := .pointer (some ⟨w.heap.size + 1, 2, none⟩)) 89 rfl rfl (by kernel_rfl) (by kernel_rfl) (by kernel_rfl) rfl (fun w' hw' => by obtain ⟨r0, r1, r2, r3, r4⟩ := hw'; go_simp) ST ?_
              simp only [Act.put, List.setIfInBounds_toArray, List.set_cons_zero, List.set_cons_succ]
              refine held_take (i := 6) (v := .slice (some ⟨g2, off2, none⟩) x.progs.length pc2) 90 rfl rfl (by kernel_rfl) (by kernel_rfl) (by kernel_rfl) rfl (fun w' hw' => by obtain ⟨r0, r1, r2, r3, r4⟩ := hw'; go_simp) ST ?_
              simp only [Act.put, List.setIfInBounds_toArray, List.set_cons_zero, List.set_cons_succ]
              refine held_take (i := 7) (v := .int .i64 (k : Int)) 91 rfl rfl (by kernel_rfl) (by kernel_rfl) (by kernel_rfl) rfl (fun w' hw' => by obtain ⟨r0, r1, r2, r3, r4⟩ := hw'; go_simp) ST ?_
              simp only [Act.put, List.setIfInBounds_toArray, List.set_cons_zero, List.set_cons_succ]
              refine held_take (i := 8) (v := .pointer (some ⟨g2, off2 + k, none⟩)) 92 rfl rfl (by kernel_rfl) (by kernel_rfl) (by kernel_rfl) rfl (fun w' hw' => by obtain ⟨r0, r1, r2, r3, r4⟩ := hw'; go_simp) ST ?_
              simp only [Act.put, List.setIfInBounds_toArray, List.set_cons_zero, List.set_cons_succ]
              refine held_take (i := 9) (v := .slice ba pl bc) 93 rfl rfl (by kernel_rfl) (by kernel_rfl) (by kernel_rfl) rfl (fun w' hw' => by obtain ⟨r0, r1, r2, r3, r4⟩ := hw'; go_simp) ST ?_
              simp only [Act.put, List.setIfInBounds_toArray, List.set_cons_zero, List.set_cons_succ]
              refine held_call (i := 10) (f := 28) (args := #[.slice aa pl ac, .slice ba pl bc]) 94 (by kernel_rfl) rfl rfl rfl (by go_simp) ?_
              refine SA.mono ?_
              rintro e W2 ⟨rfl, kW⟩
              replace ST : (fun X : World => X.cell? ⟨w.heap.size, 2, none⟩ = some (.slice (some ⟨g, off, none⟩) x.progs.length pc) ∧ X.cell? ⟨w.heap.size + 1, 2, none⟩ = some (.slice (some ⟨g2, off2, none⟩) x.progs.length pc2) ∧ X.cell? ⟨g, off + k, none⟩ = some (.slice aa pl ac) ∧ X.cell? ⟨g2, off2 + k, none⟩ = some (.slice ba pl bc) ∧ Keeps (fun _ => False) W1 X) W2 := ⟨cell_keep kW ST.1, cell_keep kW ST.2.1, cell_keep kW ST.2.2.1, cell_keep kW ST.2.2.2.1, ST.2.2.2.2.trans kW⟩
              refine ⟨_, rfl, ST, ?_⟩
              simp only [Act.put, List.setIfInBounds_toArray, List.set_cons_zero, List.set_cons_succ]
              refine held_take (i := 11) (v := .bool true) 8 rfl rfl (by kernel_rfl) (by kernel_rfl) (by kernel_rfl) rfl (fun w' hw' => by obtain ⟨r0, r1, r2, r3, r4⟩ := hw'; go_simp) ST ?_
              simp only [Act.put, List.setIfInBounds_toArray, List.set_cons_zero, List.set_cons_succ]
              refine held_end (by kernel_rfl) ?_ _
              have fin : Hid (Keeps (fun _ => False) W1 W2) := ST.2.2.2.2
              clear ST SA kW
              go_wp2_with fail
              go_roundw
              · exact ⟨k + 1, by simp, by omega, fin⟩
              · simp [intOf]; omega
            · have hki : ¬ (k : Int) < x.progs.length := by omega
              have kk := K1.out.trans kr.out
              clear hk y1
              go_wp2_with fail
              go_ret
              exact ⟨rfl, kk⟩
end Go.Proofs.YtppejcfghlpbjaaGreatDoor


/- Numbers that strconv reads and writes, at 64, 63 and 32 bits, against the numbers of a script's lines: pure facts. No statement of the seat is proved here. -/
namespace Go.Proofs.YtppejcfghlpbjaaGreatDoor
open Go.RowKit Go.Shelf

theorem parM_append (M : Nat) : ∀ (x y : List UInt8) (a b : Nat), Lib.parseUintM M a x = .ok b → Lib.parseUintM M a (x ++ y) = Lib.parseUintM M b y
  | [], y, a, b, h => by
    simp only [Lib.parseUintM, Lib.NumEnd.ok.injEq] at h
    subst h; rfl
  | c :: x, y, a, b, h => by
    rw [List.cons_append]
    rw [Lib.parseUintM] at h ⊢
    split
    · rename_i h1
      rw [if_pos h1] at h
      split
      · rename_i h2
        rw [if_pos h2] at h; cases h
      · rename_i h2
        rw [if_neg h2] at h
        split
        · rename_i h3
          rw [if_pos h3] at h; cases h
        · rename_i h3
          rw [if_neg h3] at h
          exact parM_append M x y _ b h
    · rename_i h1
      rw [if_neg h1] at h; cases h
theorem parM_one (M a d : Nat) (hd : d < 10) (ha : a < 1844674407370955162) (hm : a * 10 + d ≤ M) : Lib.parseUintM M a [UInt8.ofNat (48 + d)] = .ok (a * 10 + d) := by
  have e : (UInt8.ofNat (48 + d)).toNat = 48 + d := by rw [UInt8.toNat_ofNat']; omega
  unfold Lib.parseUintM
  rw [e, if_pos (by omega), if_neg (by omega), if_neg (by omega)]
  simp only [Lib.parseUintM]
  congr 1; omega
theorem parM_dec (M n : Nat) (hM : M < 18446744073709551616) (hn : n ≤ M) : Lib.parseUintM M 0 (Lib.decDigits n) = .ok n := by
  induction n using Nat.strongRecOn with
  | ind n ih =>
    rw [Lib.decDigits]
    split
    · have := parM_one M 0 n (by omega) (by omega) (by omega)
      rw [this]; congr 1; omega
    · rw [parM_append _ _ _ _ _ (ih (n / 10) (by omega) (by omega)), parM_one _ _ _ (by omega) (by omega) (by omega)]
      congr 1; omega
/-- What ParseUint answers where M is the greatest number: the number, and is it one. -/
def parR (M : Nat) (l : List UInt8) : Nat × Bool := match (if l = [] then Lib.NumEnd.syntax else Lib.parseUintM M 0 l) with
  | .ok u => (u, true)
  | .syntax => (0, false)
  | .range => (M, false)
theorem parR_le (M : Nat) (l : List UInt8) : (parR M l).1 ≤ M := by
  unfold parR
  split
  · rename_i u h
    split at h
    · cases h
    · exact Lib.parseUintM_le M l 0 u (Nat.zero_le _) h
  · exact Nat.zero_le _
  · exact Nat.le_refl _
/-- The number of a script's line is what ParseUint reads, if it is written so. -/
theorem numM_parR (M : Nat) (hM : M < 18446744073709551616) (l : List UInt8) : numM M l = if (parR M l).2 = true ∧ Lib.decDigits (parR M l).1 = l then some (parR M l).1 else none := by
  cases h : numM M l with
  | some n =>
    unfold numM at h
    cases hd : decL l with
    | none => rw [hd] at h; cases h
    | some m =>
      rw [hd, Option.bind_some] at h
      split at h
      · rename_i hm
        cases h
        have e := decL_forth hd
        have hp : parR M l = (n, true) := by
          unfold parR
          rw [if_neg (by rw [e]; exact dec_ne n)]
          rw [show Lib.parseUintM M 0 l = .ok n by rw [e]; exact parM_dec M n hM hm]
        rw [hp, if_pos ⟨rfl, e.symm⟩]
      · cases h
  | none =>
    rw [if_neg]
    rintro ⟨h1, h2⟩
    have hle := parR_le M l
    have hb := decL_back (parR M l).1 (by omega)
    rw [h2] at hb
    unfold numM at h
    rw [hb, Option.bind_some, if_pos hle] at h
    cases h
/-- A line cut at a byte: what stands ahead of it, what behind it, and was it there. -/
def cutA (c : UInt8) : List UInt8 → List UInt8 × List UInt8 × Bool
  | [] => ([], [], false)
  | d :: t => if d = c then ([], t, true) else (d :: (cutA c t).1, (cutA c t).2.1, (cutA c t).2.2)
theorem cut_eq (c : UInt8) : ∀ l : List UInt8, Lib.cut l [c] = cutA c l
  | [] => by unfold Lib.cut; rfl
  | d :: t => by
    have ih := cut_eq c t
    by_cases hc : d = c
    · subst hc
      have hi : Lib.index (d :: t) [d] = (0 : Nat) := Lib.index_first (i := 0) (Nat.zero_le _) (by simp [Lib.occAt]) (fun _ h => absurd h (Nat.not_lt_zero _))
      unfold Lib.cut
      rw [hi]
      simp [cutA]
    · have hno : Lib.NoOcc (d :: t) [c] 1 := fun j hj => by
        obtain rfl : j = 0 := by omega
        have hc' : ¬ c = d := fun h => hc h.symm
        simp [Lib.occAt, List.isPrefixOf, hc']
      have hd := Lib.index_drop hno (by simp)
      simp only [List.drop_succ_cons, List.drop_zero] at hd
      unfold cutA
      rw [if_neg hc, ← ih]
      unfold Lib.cut
      rw [hd]
      by_cases hn : Lib.index t [c] = -1
      · simp [hn]
      · have hge : 0 ≤ Lib.index t [c] := by
          have := Lib.index_ge t [c]
          omega
        obtain ⟨i, hi⟩ : ∃ i : Nat, Lib.index t [c] = i := ⟨(Lib.index t [c]).toNat, by omega⟩
        have hb : ((i : Int) == -1) = false := by simp
        have e1 : ((i : Int) + 1).toNat = i + 1 := by omega
        have e2 : (0 : Int) ≤ (i : Int) + 1 := by omega
        rw [hi]
        simp [hb, e1, e2]
theorem cutA_len (c : UInt8) : ∀ l : List UInt8, (cutA c l).1.length + (cutA c l).2.1.length ≤ l.length
  | [] => by simp [cutA]
  | d :: t => by
    have := cutA_len c t
    unfold cutA
    split
    · simp
    · simp; omega
theorem cutA_yes : ∀ l : List UInt8, (cutA 32 l).2.2 = true → l = (cutA 32 l).1 ++ 32 :: (cutA 32 l).2.1 ∧ (32 : UInt8) ∉ (cutA 32 l).1
  | [], h => by simp [cutA] at h
  | d :: t, h => by
    unfold cutA at h ⊢
    by_cases hd : d = 32
    · rw [if_pos hd] at h ⊢
      simp [hd]
    · rw [if_neg hd] at h ⊢
      obtain ⟨h1, h2⟩ := cutA_yes t h
      refine ⟨?_, ?_⟩
      · rw [List.cons_append, ← h1]
      · intro hm
        rcases List.mem_cons.1 hm with e | e
        · exact hd e.symm
        · exact h2 e
theorem cutA_no : ∀ l : List UInt8, (cutA 32 l).2.2 = false → (cutA 32 l).1 = l ∧ (cutA 32 l).2.1 = [] ∧ (32 : UInt8) ∉ l
  | [], _ => by simp [cutA]
  | d :: t, h => by
    unfold cutA at h ⊢
    by_cases hd : d = 32
    · rw [if_pos hd] at h; cases h
    · rw [if_neg hd] at h ⊢
      obtain ⟨h1, h2, h3⟩ := cutA_no t h
      refine ⟨by rw [h1], h2, ?_⟩
      intro hm
      rcases List.mem_cons.1 hm with e | e
      · exact hd e.symm
      · exact h3 e
/-- The pieces of a line: the first, and those of the rest. -/
theorem pcs_cut (l : List UInt8) : pcs l = (cutA 32 l).1 :: (if (cutA 32 l).2.2 = true then pcs (cutA 32 l).2.1 else []) := by
  cases h : (cutA 32 l).2.2 with
  | true =>
    obtain ⟨h1, h2⟩ := cutA_yes l h
    rw [if_pos rfl]
    conv => lhs; rw [h1, pcs_blank _ _ h2]
  | false =>
    obtain ⟨h1, h2, h3⟩ := cutA_no l h
    rw [if_neg (by simp), h1]
    exact pcs_word l h3
theorem allM_cut (M : Nat) (l : List UInt8) : allM M (pcs l) = (numM M (cutA 32 l).1).bind fun n => if (cutA 32 l).2.2 = true then (allM M (pcs (cutA 32 l).2.1)).map (n :: ·) else some [n] := by
  rw [pcs_cut, allM]
  congr 1
  funext n
  split
  · rfl
  · simp [allM]
end Go.Proofs.YtppejcfghlpbjaaGreatDoor
