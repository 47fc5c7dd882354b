
/- Walks of Text, Line (package events). No statement of the seat is proved here. -/
import Derived.Test.YtjaldfmdjnkoeaaDoorEvN
namespace Go.Proofs.YtjaldfmdjnkoeaaDoor
open Go.RowKit Go.Shelf

/-- A history's text. -/
def textE (L : List Ev) : List UInt8 := L.flatMap fun e => lineL e ++ [10]
def textR (L : List Ev) : List UInt8 × Int := if L.all formedE then (textE L, 0) else ([], 201)
theorem lineL_le {e : Ev} (h : e.wf) (hf : formedE e = true) : (lineL e).length ≤ 120 := by
  obtain ⟨-, -, ⟨a0, a1⟩, ⟨w0, w1⟩, -⟩ := h
  obtain ⟨t0, t8, q0, q1⟩ := formed_in hf
  have her : e.er < 7 := by
    unfold formedE bareB lastB at hf
    simp only [Bool.and_eq_true, Bool.or_eq_true, Bool.not_eq_true', decide_eq_true_eq, decide_eq_false_iff_not] at hf
    rcases hf.2.2 with h | h
    · rcases hf.1.2.2 with h3 | h3
      · exfalso
        rcases kd12 q0 q1 with h | h | h | h | h | h | h | h | h | h | h | h <;> rw [h] at h3 <;> first | exact absurd h3 (by decide) | (exact absurd h (by omega))
      · omega
    · omega
  have h1 := dec20 (n := e.th.toNat) (by omega)
  have h2 := dec20 (n := e.ad.toNat) (by omega)
  have h3 := dec20 (n := e.wd.toNat) (by omega)
  have h4 := dec20 (n := e.er.toNat) (by omega)
  have h5 : (nameL e).length ≤ 9 := by unfold nameL; split; simp; exact shL_le _
  have hb : ∀ b n, (Lib.decDigits n.toNat).length ≤ 20 → (blankN b n).length ≤ 21 := fun b n h => by unfold blankN; split <;> simp; omega
  have b1 := hb (adB e.kd) e.ad h2
  have b2 := hb (wdB e.kd) e.wd h3
  have b3 := hb (erB e.kd) e.er h4
  unfold lineL
  simp only [List.length_append, List.length_cons]
  omega
theorem bts_string {w : World} {base : Nat} {v : Value} {l : List UInt8} (h : Bts w base v l) : (convert 79 9 v).run Tryd.prog w = .ok (.string ⟨l.toArray⟩) w := by
  rcases h.own.2 with ⟨rfl, h2⟩ | ⟨g, cap, cur, rfl, h1, h2, h3, h4, h5, h6⟩
  · have : l = [] := List.length_eq_zero_iff.1 h2
    subst this
    simp [convert, run_underlying Tryd.underlying79, run_underlying Tryd.underlying9, run_underlying Tryd.underlying5, Result.andThen, go_sem, Conv.bytesToString]
    rfl
  · have hh := run_convert_bytes_back (P := Tryd.prog) w 79 9 5 ⟨g, 0, none⟩ cap l Tryd.underlying79 Tryd.underlying5 Tryd.underlying9 (fun j hj => by
      rw [addr_add, Nat.zero_add, cell_of_block h2]
      have : (cur.toList.take (l.length * 1))[j]? = (l.map fun b => Value.int .u8 b.toNat)[j]? := by rw [h6]
      rw [List.getElem?_take_of_lt (by omega)] at this
      simpa [hj] using this)
    exact hh

set_option maxRecDepth 100000 in
set_option maxHeartbeats 4000000 in
theorem text_any (v : Value) (L : List Ev) (w : World) (hv : EvsAt w v L) (hg : Gv w) (h8 : 8 ≤ w.heap.size) (hlen : L.length ≤ 1000000000) :
    Calls Tryd.prog 25 #[v] w fun ex w' => ex = .returned (.tuple #[.string ⟨(textR L).1.toArray⟩, .int .i64 (textR L).2]) ∧ Keeps (fun _ => False) w w' := by
  have hwf := hv.wf
  have HV : Hid (∀ X, Keeps (fun _ => False) w X → EvsAt X v L ∧ Gv X) := fun X k => ⟨hv.keeps k, hg.keeps k⟩
  obtain ⟨a, cap, rfl, hcap⟩ := hv.els.shape
  clear hv hg
  go_enter Tryd.func25, Tryd.ntmps25
  go_wp2_with fail
  go_loopw [4, 9] (fun x u wr => ∃ (k : Nat), u = .int .i64 k ∧ k ≤ L.length ∧ Hid (Bts wr w.heap.size x (textE (L.take k)) ∧ (L.take k).all formedE = true ∧ (textE (L.take k)).length ≤ 121 * k ∧ Keeps (fun _ => False) w wr)) (fun _ u _ => L.length - (intOf u).toNat)
  case atStart => exact ⟨0, rfl, Nat.zero_le _, Bts.nil _, rfl, by simp [textE], Keeps.refl _ _⟩
  case round =>
    obtain ⟨k, rfl, hk, hh⟩ := hrel
    obtain ⟨hB, hall, htl, kr⟩ := hh.out
    by_cases hlt : k < L.length
    · have hki : (k : Int) < L.length := by omega
      have hk0 : (0 : Int) ≤ k := by omega
      obtain ⟨g, off, rfl, x0, x1, x2, x3, x4, x5⟩ := (HV.out wr kr).1.at k hlt
      have hew := hwf _ (List.getElem_mem hlt)
      have htake : L.take (k + 1) = L.take k ++ [L[k]] := List.take_succ_eq_append_getElem hlt
      have FM := fun X (q : Keeps (fun _ => False) wr X) => formed_any (L[k]) X (HV.out X (kr.trans q)).2
      have WR := fun X (q : Keeps (fun _ => False) wr X) (hf : formedE (L[k]'hlt) = true) => written_any w.heap.size u4 (textE (L.take k)) (L[k]) X (hB.keeps q (fun _ _ f => f)) hf hew (HV.out X (kr.trans q)).2 h8 (by omega)
      have hLE := lineL_le (e := L[k]) hew
      have hTK : textE (L.take (k + 1)) = textE (L.take k) ++ lineL (L[k]) ++ [10] := by unfold textE; rw [htake, List.flatMap_append]; simp
      have hAL : (L.take (k + 1)).all formedE = formedE (L[k]) := by rw [htake, List.all_append, hall]; simp
      have hNO : formedE (L[k]) = false → textR L = ([], 201) := fun h => by
        unfold textR
        rw [if_neg]
        rw [List.all_eq_true]
        intro hh
        rw [hh _ (List.getElem_mem hlt)] at h
        cases h
      have HT : Hid (textE (L.take (k + 1)) = textE (L.take k) ++ lineL (L[k]) ++ [10] ∧ (L.take (k + 1)).all formedE = formedE (L[k]) ∧ (formedE (L[k]) = false → textR L = ([], 201)) ∧ (textE (L.take k)).length ≤ 121 * k) := ⟨hTK, hAL, hNO, htl⟩
      clear htake hTK hAL hNO hh hall htl hew hwf
      generalize hev : L[k]'hlt = e at *
      clear hev
      have ka := (Keeps.refl (fun _ => False) wr).alloc (.cells e.cells 44)
      have ba := (MapKept.heap_alloc wr (.cells e.cells 44)).1
      cases hf : formedE e
      · have HN : Hid (textR L = ([], 201)) := HT.out.2.2.1 hf
        obtain ⟨th, kd, ad, wd, own, er⟩ := e
        dsimp only at x0 x1 x2 x3 x4 x5 ka ba
        rw [hf] at FM
        clear WR hLE hf
        go_wp2_with fail
        refine (FM _ ka).mono ?_
        rintro ex w1 ⟨rfl, k1⟩
        have KE := (kr.trans ka).trans k1
        clear x0 x1 x2 x3 x4 x5 FM
        go_wp2_with fail
        go_ret2
        exact ⟨by rw [HN.out]; rfl, KE⟩
      · have hle := hLE hf
        have WR2 := fun X q => WR X q hf
        have HA : Hid (formedE e = true) := hf
        obtain ⟨th, kd, ad, wd, own, er⟩ := e
        dsimp only at x0 x1 x2 x3 x4 x5 ka ba
        rw [hf] at FM
        clear WR hLE hf
        go_wp2_with fail
        refine (FM _ ka).mono ?_
        rintro ex w1 ⟨rfl, k1⟩
        have e2 := (k1.block _ (lt_of_block ba) (fun f => f)).trans ba
        have c0 : w1.cell? ⟨wr.heap.size, 0, none⟩ = some (.int .i64 th) := by rw [cell_of_block e2]; rfl
        have c1 : w1.cell? ⟨wr.heap.size, 1, none⟩ = some (.int .i64 kd) := by rw [cell_of_block e2]; rfl
        have c2 : w1.cell? ⟨wr.heap.size, 2, none⟩ = some (.int .u64 ad) := by rw [cell_of_block e2]; rfl
        have c3 : w1.cell? ⟨wr.heap.size, 3, none⟩ = some (.int .u64 wd) := by rw [cell_of_block e2]; rfl
        have c4 : w1.cell? ⟨wr.heap.size, 4, none⟩ = some (.bool own) := by rw [cell_of_block e2]; rfl
        have c5 : w1.cell? ⟨wr.heap.size, 5, none⟩ = some (.int .i64 er) := by rw [cell_of_block e2]; rfl
        clear x0 x1 x2 x3 x4 x5 FM
        go_wp2_with fail
        refine (WR2 _ (ka.trans k1)).mono ?_
        rintro ex w2 ⟨v2, rfl, hB2, bk2⟩
        obtain ⟨v3, w3, r1, r2, r3⟩ := hB2.blank 10 10 rfl (by have := HT.out.2.2.2; simp only [List.length_append]; omega)
        have HR : Hid (_ = _) := r1
        have K3 : Keeps (fun _ => False) w w3 := by
          have q1 := (kr.trans ka).trans k1
          have q2 := bk2.trans r3
          exact ⟨q2.below.os.trans q1.os, q2.below.tape.trans q1.tape, q2.below.output.trans q1.output, Nat.le_trans q1.size q2.below.size, fun q hq _ => (q2.below.block q hq).trans (q1.block q hq (fun f => f))⟩
        clear WR2 c0 c1 c2 c3 c4 c5 e2 k1 ka ba hB hB2 bk2 r1 r3 kr
        go_wp2_with (at_builtin; refine wpList_append_run rfl _ _ 79 rfl rfl rfl HR.out ?_; clear HR)
        go_roundw
        · obtain ⟨t1, t2, t3, t4⟩ := HT.out
          refine ⟨k + 1, by simp, by omega, ⟨?_, by rw [t2, HA.out], ?_, K3⟩⟩
          · rw [t1]; exact r2
          · rw [t1]; simp only [List.length_append, List.length_cons, List.length_nil]; omega
        · simp [intOf]; omega
    · obtain rfl : k = L.length := by omega
      have hR : Hid (textR L = (textE L, 0)) := by
        rw [List.take_length] at hall
        show textR L = _
        unfold textR
        rw [if_pos hall]
      have hcv := bts_string hB
      rw [List.take_length] at hcv
      clear hh hB hall htl
      go_wp2_with fail
      go_ret2
      exact ⟨by rw [hR.out]; rfl, kr⟩
end Go.Proofs.YtjaldfmdjnkoeaaDoor
