
/- Walks of write and Text (package asm), and of the document's Same, CopyCode, KeptCode. No statement of the seat is proved here. -/
import Derived.Test.YtkkmkfldldglgaaGreatDoorAuA
namespace Go.Proofs.YtkkmkfldldglgaaGreatDoor
open Go.RowKit Go.Shelf

set_option maxRecDepth 100000 in
set_option maxHeartbeats 8000000 in
theorem wcode_any (v : Value) (L : List I5) (hL : L.length ≤ 65536) (w0 : World) (hw : Gp w0) (h : InsAt w0 v L) (b : Nat) (l0 : List UInt8) (hl0 : l0.length ≤ 1099511627776) (w : World) (hk : Keeps (fun _ => False) w0 w) (hb : Bld w w0.heap.size b l0) :
    Calls Tryz.prog 40 #[.pointer (some ⟨b, 0, none⟩), v] w fun e w' => ((L.all formedB = true → e = .returned (.int .i64 0) ∧ Bld w' w0.heap.size b (l0 ++ plainL L)) ∧ (L.all formedB = false → e = .returned (.int .i64 180))) ∧ Keeps (fun _ => False) w0 w' := by
  have HI : Hid (∀ X, Keeps (fun _ => False) w0 X → InsAt X v L) := fun X k => h.keeps k
  have HW : Hid (∀ i ∈ L, i.wf) := h.wf
  obtain ⟨⟨a0, c0, rfl, _⟩, -, -⟩ := h
  have TXY := fun i hf h0 h1 X (hX : Keeps (fun _ => False) w0 X) => text_yes i hf h0 h1 X (hw.keeps hX).gl.nms
  have TXN := fun i hf (X : World) => text_no i hf X
  have hLi : (L.length : Int) ≤ 65536 := by omega
  obtain ⟨B, hB⟩ : ∃ B, B = w0.heap.size := ⟨_, rfl⟩
  rw [← hB] at hb ⊢
  have HB : Hid (B = w0.heap.size) := hB
  have S0 : Hid (Bld w B b l0 ∧ Keeps (fun _ => False) w0 w) := ⟨hb, hk⟩
  clear hB hb hk
  go_enter Tryz.func40, Tryz.ntmps40
  go_wp2_with fail
  go_loopw [11] (fun u wr => ∃ k : Nat, u = .int .i64 k ∧ k ≤ L.length ∧ Hid ((L.take k).all formedB = true ∧ (plainK L k).length ≤ 128 * k ∧ Bld wr B b (l0 ++ plainK L k) ∧ Keeps (fun _ => False) w0 wr)) (fun u _ => L.length - (intOf u).toNat)
  case atStart => exact ⟨0, rfl, Nat.zero_le _, ⟨by simp, by simp [plainK], by simpa [plainK] using S0.out.1, S0.out.2⟩⟩
  case round =>
    obtain ⟨k, rfl, hk, hP⟩ := hrel
    clear S0
    by_cases hlt : k < L.length
    · obtain ⟨ga, off, cap, hv, x0, x1, x2, x3, x4⟩ := (HI.out wr hP.out.2.2.2).at k hlt
      simp only [Value.slice.injEq] at hv
      obtain ⟨rfl, -, rfl⟩ := hv
      have hki : (k : Int) < L.length := by omega
      have hw5 := HW.out (L[k]) (List.getElem_mem hlt)
      have HP : Hid (plainK L (k + 1) = plainK L k ++ (textL (L[k]) ++ [10])) := plainK_succ hlt
      have HA : Hid (formedB (L[k]) = false → L.all formedB = false) := all_of_take hlt
      have HT : Hid (formedB (L[k]) = true → (L.take (k + 1)).all formedB = true) := take_all hlt hP.out.1
      generalize L[k]'hlt = i at *
      have ka := (Keeps.refl (fun _ => False) wr).alloc (.cells i.cells 37)
      have HS : Hid (Bld (wr.alloc (.cells i.cells 37)) B b (l0 ++ plainK L k) ∧ Keeps (fun _ => False) w0 (wr.alloc (.cells i.cells 37))) := ⟨hP.out.2.2.1.keeps ka, hP.out.2.2.2.trans ka⟩
      have hln := hP.out.2.1
      have hn0 := hw5.2.2.2.2.1
      have hn1 := hw5.2.2.2.2.2
      cases hform : formedB i
      · have hF := HA.out hform
        have TX := TXN i hform
        have kk := HS.out.2
        obtain ⟨op, a, bb, c, N⟩ := i
        dsimp only at x0 x1 x2 x3 x4
        clear hP HS HP HT HA ka TXY TXN
        go_wp2_with fail
        refine (TX _).mono ?_
        rintro e X ⟨rfl, kX⟩
        have kkX := kk.trans kX
        clear TX
        go_wp2_with fail
        go_ret
        exact ⟨⟨fun hq => (by rw [hF] at hq; cases hq), fun _ => rfl⟩, kkX⟩
      · have hal := HT.out hform
        have htl := text_len hform hn0 hn1
        have TX := TXY i hform hn0 hn1 _ HS.out.2
        have hK : Hid (l0 ++ plainK L k ++ (textL i ++ [10]) = l0 ++ plainK L (k + 1) ∧ (plainK L (k + 1)).length ≤ 128 * (k + 1)) := ⟨by rw [HP.out]; simp, by rw [HP.out]; simp only [List.length_append, List.length_cons, List.length_nil]; omega⟩
        have HWZ : Hid (∀ X, Keeps (fun _ => False) (wr.alloc (.cells i.cells 37)) X → Calls Tryz.prog 43 #[.pointer (some ⟨b, 0, none⟩), .string (⟨(textL i).toArray⟩ ++ ⟨#[10]⟩)] X fun e X' => (∃ n, e = .returned (.tuple #[.int .i64 n, .nilIface])) ∧ Bld X' B b (l0 ++ plainK L (k + 1)) ∧ Keeps (fun _ => False) w0 X') := fun X kX => by
          have := str_app (textL i) [10]
          rw [this]
          refine (write_any _ _ _ b X (HS.out.1.keeps kX) (by simp only [List.length_append, List.length_cons, List.length_nil]; omega)).mono fun e X' ⟨h1, h2, h3, _⟩ => ⟨h1, ?_, ?_⟩
          · rw [← hK.out.1]; exact h2
          · exact keeps_upon (HS.out.2.trans kX) (by rw [← HB.out]; exact h3)
        have hKl := hK.out.2
        clear hK HP HA HT hP
        have tm2 : ¬ 9223372036854775807 < (textL i).length + 1 := by omega
        generalize textL i = tx at *
        obtain ⟨op, a, bb, c, N⟩ := i
        dsimp only at x0 x1 x2 x3 x4
        clear TXY TXN ka
        go_wp2_with fail
        refine TX.mono ?_
        rintro e X ⟨rfl, kX⟩
        have WZ := HWZ.out X kX
        clear TX HWZ HS
        go_wp2_with fail
        refine WZ.mono ?_
        rintro e X' ⟨⟨n, rfl⟩, hb', kX'⟩
        clear WZ
        have FI : Hid ((L.take (k + 1)).all formedB = true ∧ (plainK L (k + 1)).length ≤ 128 * (k + 1) ∧ Bld X' B b (l0 ++ plainK L (k + 1)) ∧ Keeps (fun _ => False) w0 X') := ⟨hal, hKl, hb', kX'⟩
        clear hb' kX'
        go_wp2_with fail
        go_roundw
        · exact ⟨k + 1, by simp, by omega, FI⟩
        · simp [intOf]; omega
    · obtain rfl : k = L.length := by omega
      obtain ⟨h1, h2, h3, h4⟩ := hP.out
      rw [List.take_length] at h1
      have h3' : Hid (Bld wr B b (l0 ++ plainL L)) := h3
      clear HI TXY TXN hP h3
      go_wp2_with fail
      go_ret
      exact ⟨⟨fun _ => ⟨rfl, h3'.out⟩, fun hq => (by rw [h1] at hq; cases hq)⟩, h4⟩

set_option maxRecDepth 100000 in
set_option maxHeartbeats 4000000 in
theorem atext_any (v : Value) (L : List I5) (hL : L.length ≤ 65536) (w : World) (hw : Gp w) (h : InsAt w v L) : Calls Tryz.prog 16 #[v] w fun e w' => TxPost L e ∧ Keeps (fun _ => False) w w' := by
  have k0 := (Keeps.refl (fun _ => False) w).alloc (.cells #[.pointer none, .slice none 0 0] 86)
  have WC := wcode_any v L hL w hw h w.heap.size [] (by simp) _ k0 (Bld.new w)
  obtain ⟨⟨a0, c0, rfl, _⟩, -, -⟩ := h
  go_enter Tryz.func16, Tryz.ntmps16
  go_wp2_with fail
  refine WC.mono ?_
  rintro e w1 ⟨⟨h1, h2⟩, k1⟩
  clear WC
  cases hall : L.all formedB
  · rw [h2 hall]
    clear h1 h2
    go_wp2_with fail
    go_ret2
    exact ⟨⟨fun hq => (by rw [hall] at hq; cases hq), fun _ => rfl⟩, k1⟩
  · obtain ⟨rfl, hb⟩ := h1 hall
    rw [List.nil_append] at hb
    have BS := bstring_any _ _ _ _ hb
    clear h1 h2 hb
    go_wp2_with fail
    refine BS.mono ?_
    rintro e X ⟨rfl, hX⟩
    have kk := keeps_upon k1 hX
    clear BS
    go_wp2_with fail
    go_ret2
    exact ⟨⟨fun _ => rfl, fun hq => (by rw [hall] at hq; cases hq)⟩, kk⟩
end Go.Proofs.YtkkmkfldldglgaaGreatDoor
