
/- Walks of numbers, seen (layer 16). No statement of the seat is proved here. -/
import Derived.Test.YtjmmjkoloioddaaDoorM05OpC
namespace Go.Proofs.YtjmmjkoloioddaaDoor
open Go.RowKit Go.Shelf

def preL (D : List Int) (k : Nat) : Int := (D.take k).sum
theorem preL_succ (D : List Int) (k : Nat) (h : k < D.length) : preL D (k + 1) = preL D k + D[k] := by
  unfold preL; rw [List.take_succ_eq_append_getElem h, List.sum_append]; simp
theorem run_uptoT {t e : TypeId} {z : Value} {sz by_ : Nat} (hu : Tryd.prog.underlying t = some (.slice e)) (hin : (Tryd.prog.info? e).map (fun i => (i.zero, i.size, i.bytes)) = some (some z, sz, by_)) (W : World) (a : Option Addr) (n c m : Nat) (hm : m ≤ c) : (Instr.slice t (.slice a n c) none (some (.int .i64 m)) none).run Tryd.prog W = .ok (.slice a m c) W := by
  obtain ⟨i0, hi, hz0, hz1, hz2⟩ := info_parts hin
  have h1 : (0 : Int) ≤ m := by omega
  have h2 : (m : Int) ≤ c := by omega
  have h3 : (if c = 0 then a else a.map (·.add (0 * sz))) = a := by
    split
    · rfl
    · cases a with
      | none => rfl
      | some a => simp [Addr.add]
  simp [Instr.slice, run_underlying hu, Instr.sliceBounds, run_sliceBound, sizeOf, typeInfo, hi, h2]
  simpa using h3
set_option maxRecDepth 100000 in
set_option maxHeartbeats 8000000 in
theorem numbers_any (base sb fr : Nat) (v : Value) (D : List Int) (n : Nat) (hn : D.length = n + 1) (hl : n ≤ 1300000) (hf : fr ≤ 1300000) (hD : ∀ k, k < D.length → 0 ≤ preL D (k + 1) ∧ preL D (k + 1) ≤ 1300000) (w : World) (h : SpAt w base sb (fr : Int) v D) :
    Calls Tryd.prog 54 #[.pointer (some ⟨sb, 0, none⟩)] w fun ex w' => ∃ u, ex = .returned u ∧ NR w' w.heap.size u (numsD D fr n) ∧ Keeps (fun _ => False) w w' := by
  obtain ⟨g, cap, cur, rfl, hbg, hb2, hs2⟩ := h.row.at (by omega)
  have hcap : n + 1 ≤ cap := by
    rcases h.row.own.2 with ⟨q, _⟩ | ⟨g', cap', cur', q1, _, _, q4, _⟩
    · cases q
    · rw [hn] at q1 q4; injection q1 with _ _ q; omega
  have HC : Hid (∀ X, Keeps (fun _ => False) w X → ∀ k, k < D.length → X.cell? ⟨g, k, none⟩ = some (.int .i64 ((D[k]?).getD 0))) := fun X k j hj => by
    rw [cell_keep k (NR.cell h.row j hj).1 (fun f => f), List.getElem?_eq_getElem hj]; rfl
  rw [hn] at h
  have s0 : w.cell? ⟨sb, 0, none⟩ = some (.int .i64 (fr : Int)) := by rw [cell_of_block h.blk]; rfl
  have s1 : w.cell? ⟨sb, 1, none⟩ = some (.slice (some ⟨g, 0, none⟩) (n + 1) cap) := by rw [cell_of_block h.blk]; rfl
  have HS : Hid (∀ X, Keeps (fun _ => False) w X → X.cell? ⟨sb, 0, none⟩ = some (.int .i64 (fr : Int))) := fun X k => cell_keep k s0 (fun f => f)
  have hS0 : w.cell? ⟨sb, 1, none⟩ = some (.slice (some ⟨g, 0, none⟩) (n + 1) cap) := s1
  have hw1 : IntKind.i64.wrap (((n + 1 : Nat) : Int) - 1) = (n : Int) := by rw [IntKind.wrap_i64]; omega
  have hsl : ∀ W : World, (Instr.slice 54 (.slice (some ⟨g, 0, none⟩) (n + 1) cap) none (some (.int .i64 (n : Int))) none).run Tryd.prog W = .ok (.slice (some ⟨g, 0, none⟩) n cap) W := fun W => run_uptoT Tryd.underlying54 info_nC W _ _ _ _ (by omega)
  have O0 := OwnR.nil nC 1 3 w.drew
  clear h hb2 hs2 s1 s0 cur
  obtain ⟨N, hN⟩ : ∃ N : Nat, N = n + 1 := ⟨_, rfl⟩
  rw [← hN] at hS0 hw1 hsl
  have HN : Hid (N = n + 1) := hN
  clear hN
  have hc0 : ¬ cap = 0 := by omega
  have hnc : (n : Int) ≤ (cap : Int) := by omega
  have hn0 : (0 : Int) ≤ (n : Int) := by omega
  go_enter Tryd.func54, Tryd.ntmps54
  go_wp2_with fail
  go_region_held3 (fun W : World => W.cell? ⟨sb, 1, none⟩ = some (.slice (some ⟨g, 0, none⟩) N cap)) (first | assumption | (exact hS0) | go_keep) (fail)
  go_wp2_with fail
  have hsd : w.drew.heap.size = w.heap.size := rfl
  rw [hsd] at O0
  have KD : Keeps (fun _ => False) w w.drew := (Keeps.refl _ w).drew
  have HD : Hid (∀ k, k < D.length → 0 ≤ preL D (k + 1) ∧ preL D (k + 1) ≤ 1300000) := hD
  clear hD hsl hS0 hsd
  go_loopw [3, 4, 19] (fun u3 u4 u19 wr => ∃ (k : Nat), u4 = .int .i64 (preL D k) ∧ u19 = .int .i64 k ∧ k ≤ n ∧ NR wr w.heap.size u3 (numsD D fr k) ∧ Keeps (fun _ => False) w wr) (fun _ _ u _ => n - (intOf u).toNat)
  case atStart => exact ⟨0, by simp [preL], rfl, Nat.zero_le _, O0, KD⟩
  case round =>
    clear O0 KD
    obtain ⟨k, rfl, rfl, hk, hO, kr⟩ := hrel
    have hlen : (numsD D fr k).length ≤ k := by
      unfold numsD
      rw [List.length_map]
      exact Nat.le_trans (List.length_filter_le _ _) (by simp)
    by_cases hlt : k < n
    · have hki : (k : Int) < n := by omega
      have hk0 : (0 : Int) ≤ k := by omega
      have hkD : k < D.length := by omega
      have c1 := HC.out wr kr k hkD
      have s0 := HS.out wr kr
      rw [List.getElem?_eq_getElem hkD, Option.getD_some] at c1
      have hps := preL_succ D k hkD
      have hns := numsD_succ D fr k
      rw [show preD D k = preL D (k + 1) from rfl] at hns
      have hb := HD.out k hkD
      have hws : IntKind.i64.wrap (preL D k + D[k]) = preL D (k + 1) := by rw [IntKind.wrap_i64]; omega
      have hwf : IntKind.i64.wrap ((fr : Int) + (k : Int)) = (fr : Int) + (k : Int) := by rw [IntKind.wrap_i64]; omega
      generalize hpz : preL D (k + 1) = pz at *
      generalize hpk : preL D k = pk at *
      generalize hdk : D[k]'hkD = dk at *
      have HP : Hid (preL D (k + 1) = pz) := hpz
      clear hpz hpk hdk hps hb
      by_cases hz : pz = 0
      · rw [if_pos hz] at hns
        subst hz
        obtain ⟨v', w3, r1, r2, r3⟩ := hO.push nC_len nC_one (by decide) Tryd.underlying54 info_nC rfl (by decide) (ty := 54) ((fr : Int) + (k : Int)) (cs := #[.int .i64 ((fr : Int) + (k : Int))]) rfl (by omega)
        rw [← hns] at r2
        have K3 := OwnR.kept r3 kr hO
        obtain ⟨ub, uc, rfl⟩ := hO.form
        obtain ⟨ya, yn, rfl⟩ := r2.form
        have HA : Hid (_ = _) := r1
        have HF : Hid (NR w3 w.heap.size _ (numsD D fr (k + 1)) ∧ Keeps (fun _ => False) w w3) := ⟨r2, K3⟩
        generalize (numsD D fr k).length = m1 at *
        generalize (numsD D fr (k + 1)).length = m2 at *
        clear r1 r2 r3 hO hns K3 hlen
        go_wp2_with (at_builtin; refine wpList_append_run rfl _ _ 54 rfl rfl rfl HA.out ?_)
        go_roundw
        · exact ⟨k + 1, by rw [HP.out], by simp, by omega, HF.out⟩
        · simp [intOf]; omega
      · rw [if_neg hz] at hns
        have hzb : (pz == 0) = false := by rw [beq_eq_false_iff_ne]; exact hz
        have HF : Hid (NR wr w.heap.size u3 (numsD D fr (k + 1))) := by rw [hns]; exact hO
        obtain ⟨ub, uc, rfl⟩ := hO.form
        clear hO hns
        go_wp2_with fail
        go_roundw
        · exact ⟨k + 1, by rw [HP.out], by simp, by omega, HF.out, kr⟩
        · simp [intOf]; omega
    · obtain rfl : k = n := by omega
      have HF : Hid (NR wr w.heap.size u3 (numsD D fr k)) := hO
      obtain ⟨ub, uc, rfl⟩ := hO.form
      clear hO
      go_wp2_with fail
      go_ret
      exact ⟨_, rfl, HF.out, kr⟩
/-- Cells with their words. -/
@[reducible] def clC (p : Int × Int) : List Value := [.int .u64 p.1, .int .u64 p.2]
theorem cl_len (p : Int × Int) : (clC p).length = 2 := rfl
theorem cl_ne (p : Int × Int) : clC p ≠ [] := by simp
theorem cl_one (p : Int × Int) : ∀ u ∈ clC p, u.oneCell' = true := by
  intro u hu
  simp at hu
  rcases hu with rfl | rfl <;> rfl
theorem info_cl : (Tryd.prog.info? 88).map (fun i => (i.zero, i.size, i.bytes)) = some (some (.agg #[.int .u64 0, .int .u64 0]), 2, 16) := by kernel_rfl
abbrev CR (w : World) (base : Nat) (v : Value) (L : List (Int × Int)) : Prop := OwnR clC 2 88 w base v L
set_option maxRecDepth 100000 in
set_option maxHeartbeats 8000000 in
theorem seen_any (x : Bx) (hl : x.p.rs.length ≤ 1100000) (w : World) (h : ElsAt enC 3 w x.r.v x.p.rs) : Calls Tryd.prog 34 #[.agg x.cb.toArray] w fun ex w' => ∃ u, ex = .returned u ∧ CR w' w.heap.size u x.p.rs ∧ Keeps (fun _ => False) w w' := by
  obtain ⟨⟨pth, pkd, pfi, pla, pnu, pwr, per, prs, pws, psi, plk⟩, ⟨ra, rn, rc⟩, ⟨sa, sn, sc⟩⟩ := x
  dsimp only [Sl.v] at h hl ⊢
  change Calls Tryd.prog 34 #[.agg #[.int .i64 pth, .int .i64 pkd, .int .i64 pfi, .int .i64 pla, .int .u64 pnu, .bool pwr, .int .i64 per, .slice ra rn rc, .slice sa sn sc]] w _
  obtain ⟨a, cap, hv, hcap⟩ := h.shape
  injection hv with e1 e2 e3
  subst e1 e2 e3
  have HV : Hid (∀ X, Keeps (fun _ => False) w X → ElsAt enC 3 X (.slice ra prs.length rc) prs) := fun X k => h.keeps en_ne k
  have k0 := (Keeps.refl (fun _ => False) w).alloc (.cells #[.int .i64 pth, .int .i64 pkd, .int .i64 pfi, .int .i64 pla, .int .u64 pnu, .bool pwr, .int .i64 per, .slice ra prs.length rc, .slice sa sn sc] 81)
  clear h
  have O0 := (OwnR.nilB clC 2 88 _ w.heap.size k0.size)
  have hc0 : prs.length ≤ 1100000 := hl
  go_enter Tryd.func34, Tryd.ntmps34
  go_wp2_with fail
  go_loopw [3, 9] (fun u3 u wr => ∃ (k : Nat), u = .int .i64 k ∧ k ≤ prs.length ∧ CR wr w.heap.size u3 (prs.take k) ∧ Keeps (fun _ => False) w wr) (fun _ u _ => prs.length - (intOf u).toNat)
  case atStart => exact ⟨0, rfl, Nat.zero_le _, O0, k0⟩
  case round =>
    clear O0 k0
    obtain ⟨k, rfl, hk, hO, kr⟩ := hrel
    by_cases hlt : k < prs.length
    · have hki : (k : Int) < prs.length := by omega
      have hk0 : (0 : Int) ≤ k := by omega
      obtain ⟨g, off, rfl, hc⟩ := (HV.out wr kr).at k hlt
      have htk : prs.take (k + 1) = prs.take k ++ [prs[k]] := List.take_succ_eq_append_getElem hlt
      have hub : (prs.take k).length = k := by simp; omega
      generalize hx : prs[k]'hlt = x at *
      clear hx
      obtain ⟨ad, wd⟩ := x
      have y0 := hc 0 _ rfl
      have y1 := hc 1 _ rfl
      have y2 := hc 2 _ rfl
      dsimp only at y0 y1 y2
      simp only [Nat.add_zero] at y0
      have kA := (Keeps.refl (fun _ => False) wr).alloc (.cells #[.int .u64 ad, .int .u64 wd, .bool false] 91)
      obtain ⟨v', w3, r1, r2, r3⟩ := (hO.keeps kA (fun _ _ f => f)).push cl_len cl_one (by decide) Tryd.underlying59 info_cl rfl (by decide) (ty := 59) (ad, wd) (cs := #[.int .u64 ad, .int .u64 wd]) rfl (by rw [hub]; omega)
      rw [← htk] at r2
      rw [show (wr.alloc (.cells #[.int .u64 ad, .int .u64 wd, .bool false] 91)).heap.size = wr.heap.size + 1 by simp] at r1
      have K3 := OwnR.kept (Grew.ahead kA r3) kr (hO)
      obtain ⟨ub, uc, rfl⟩ := hO.form
      rw [hub] at r1 ⊢
      obtain ⟨⟨ya, yn, yc⟩, rfl, -⟩ := sl_of r2
      have HA : Hid (_ = _) := r1
      have HF : Hid (CR w3 w.heap.size (.slice ya yn yc) (prs.take (k + 1)) ∧ Keeps (fun _ => False) w w3) := ⟨r2, K3⟩
      clear hc r1 r2 r3 kA hO htk hub K3
      go_wp2_with (at_builtin; refine wpList_append_run rfl _ _ 59 rfl rfl rfl HA.out ?_)
      go_roundw
      · exact ⟨k + 1, by simp, by omega, HF.out⟩
      · simp [intOf]; omega
    · obtain rfl : k = prs.length := by omega
      have HF : Hid (CR wr w.heap.size u3 prs) := by rw [List.take_length] at hO; exact hO
      obtain ⟨ub, uc, rfl⟩ := hO.form
      clear hO
      go_wp2_with fail
      go_ret
      exact ⟨_, rfl, HF.out, kr⟩
end Go.Proofs.YtjmmjkoloioddaaDoor
