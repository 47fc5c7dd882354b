
/- Walks of the document's words, number (package parleyref13). No statement of the seat is proved here. -/
import Derived.Test.YtjaldfmdjnkoeaaDoorEvPa
import Derived.Test.YtjaldfmdjnkoeaaDoorEvM
import Derived.Test.YtjaldfmdjnkoeaaDoorARoundC
namespace Go.Proofs.YtjaldfmdjnkoeaaDoor
open Go.RowKit Go.Shelf

theorem cut_str (l : List UInt8) (a b : Nat) : (⟨l.toArray⟩ : ByteArray).extract a b = ⟨((l.drop a).take (b - a)).toArray⟩ := ByteArray.extract_mk l a b
/-- A text as a cell. -/
@[reducible] def Sl (x : List UInt8) : List Value := [.string ⟨x.toArray⟩]
theorem sl_len (x : List UInt8) : (Sl x).length = 1 := rfl
theorem sl_ne (x : List UInt8) : Sl x ≠ [] := by simp
theorem sl_one (x : List UInt8) : ∀ u ∈ Sl x, u.oneCell' = true := by simp [Value.oneCell']
theorem info_str : (Tryd.prog.info? 9).map (fun i => (i.zero, i.size, i.bytes)) = some (some (.string ByteArray.empty), 1, 16) := by kernel_rfl
/-- A line's words, cut at each blank. -/
def stepW (W : List (List UInt8)) (c : UInt8) : List (List UInt8) := if c = 32 then W ++ [[]] else W.set (W.length - 1) ((W[W.length - 1]?).getD [] ++ [c])
def wordsL (s : List UInt8) : List (List UInt8) := s.foldl stepW [[]]
theorem stepW_len (W : List (List UInt8)) (c : UInt8) : W.length ≤ (stepW W c).length ∧ (stepW W c).length ≤ W.length + 1 := by
  unfold stepW; split <;> simp
theorem stepW_last {W : List (List UInt8)} {x : List UInt8} {c : UInt8} (hc : c ≠ 32) : stepW (W ++ [x]) c = W ++ [x ++ [c]] := by
  unfold stepW
  rw [if_neg hc]
  simp
theorem fold_word {W : List (List UInt8)} : ∀ (y x : List UInt8), 32 ∉ y → y.foldl stepW (W ++ [x]) = W ++ [x ++ y]
  | [], x, _ => by simp
  | c :: y, x, h => by
    rw [List.foldl_cons, stepW_last (fun q => h (by simp [q])), fold_word y (x ++ [c]) (fun q => h (List.mem_cons_of_mem _ q))]
    simp
theorem words_one {x : List UInt8} (h : 32 ∉ x) : wordsL x = [x] := by
  have := fold_word (W := []) x [] h
  simpa [wordsL] using this
theorem fold_cut {W : List (List UInt8)} {x r : List UInt8} (h : 32 ∉ x) : (x ++ 32 :: r).foldl stepW (W ++ [[]]) = r.foldl stepW (W ++ [x] ++ [[]]) := by
  rw [List.foldl_append, fold_word x [] h, List.foldl_cons]
  simp [stepW]
set_option maxRecDepth 100000 in
set_option maxHeartbeats 4000000 in
theorem rwords_any (l : List UInt8) (hl : l.length ≤ 1048576) (w : World) : Calls Tryd.prog 69 #[.string ⟨l.toArray⟩] w fun e w' => ∃ v, e = .returned v ∧ OwnR Sl 1 9 w' w.heap.size v (wordsL l) ∧ Keeps (fun _ => False) w w' := by
  have hsz := size_of l
  have k0 := (Keeps.refl (fun _ => False) w).alloc (.cells #[.string ⟨#[]⟩] 9)
  have b0 := (MapKept.heap_alloc w (.cells #[.string ⟨#[]⟩] 9)).1
  have o0 : OwnR Sl 1 9 (w.alloc (.cells #[.string ⟨#[]⟩] 9)) w.heap.size (.slice (some ⟨w.heap.size, 0, none⟩) 1 1) [[]] := ⟨⟨rfl, .inr ⟨w.heap.size, 1, #[.string ⟨#[]⟩], rfl, Nat.le_refl _, b0, by simp, by decide, rfl, rfl⟩⟩, by simp⟩
  go_enter Tryd.func69, Tryd.ntmps69
  go_wp2_with fail
  go_loopw [3, 4] (fun u u2 wr => ∃ (i : Nat) (W : List (List UInt8)), u2 = .int .i64 i ∧ i ≤ l.length ∧ Hid (OwnR Sl 1 9 wr w.heap.size u W ∧ wordsL l = (l.drop i).foldl stepW W ∧ 1 ≤ W.length ∧ W.length ≤ i + 1 ∧ (∀ x ∈ W, x.length ≤ i) ∧ Keeps (fun _ => False) w wr)) (fun _ u _ => l.length - (intOf u).toNat)
  case atStart => exact ⟨0, [[]], rfl, Nat.zero_le _, o0, by simp [wordsL], by simp, by simp, by simp, k0⟩
  case round =>
    obtain ⟨i, W, rfl, hil, hh⟩ := hrel
    clear o0 k0 b0
    obtain ⟨oW, hW, hW1, hWl, hWx, kr⟩ := hh.out
    by_cases hlt : i < l.length
    · have hli : (i : Int) < l.length := by omega
      have hi0 : (0 : Int) ≤ i := by omega
      have hs : i < (⟨l.toArray⟩ : ByteArray).size := by rw [hsz]; exact hlt
      have hat : ((⟨l.toArray⟩ : ByteArray)[i]'hs).toNat = (l[i]).toNat := rfl
      rw [List.drop_eq_getElem_cons hlt, List.foldl_cons] at hW
      have hcut : (⟨l.toArray⟩ : ByteArray).extract i (i + 1) = ⟨[l[i]].toArray⟩ := by
        rw [cut_str]
        congr 2
        rw [show i + 1 - i = 1 by omega, List.drop_eq_getElem_cons hlt]
        rfl
      by_cases hb : l[i] = 32
      · obtain ⟨v1, w1, r1, r2, r3⟩ := oW.push (P := Tryd.prog) (ts := 111) (ty := 111) sl_len sl_one (by decide) Tryd.underlying111 info_str rfl (by decide) [] (cs := #[.string ⟨#[]⟩]) rfl (by omega)
        have HR : Hid (_ = _) := r1
        have KK := OwnR.kept r3 kr oW
        have fin : Hid (OwnR Sl 1 9 w1 w.heap.size v1 (W ++ [[]]) ∧ wordsL l = (l.drop (i + 1)).foldl stepW (W ++ [[]]) ∧ 1 ≤ (W ++ [[]]).length ∧ (W ++ [[]]).length ≤ i + 1 + 1 ∧ (∀ x ∈ W ++ [[]], x.length ≤ i + 1) ∧ Keeps (fun _ => False) w w1) := ⟨r2, by rw [hW]; unfold stepW; rw [if_pos hb], by simp, by simp; omega, fun x hx => by
          rcases List.mem_append.1 hx with q | q
          · have := hWx x q; omega
          · simp at q; subst q; simp, KK⟩
        obtain ⟨ua, uc, rfl⟩ := oW.form
        rw [hb] at hat
        clear hh hW hWx oW r1 r2 r3 KK hb
        go_wp2_with (at_builtin; refine wpList_append_run rfl _ _ 111 rfl rfl rfl HR.out ?_)
        go_roundw
        · exact ⟨i + 1, W ++ [[]], by simp, by omega, fin⟩
        · simp [intOf]; omega
      · obtain ⟨g, cap, cur, rfl, hg, hbk, hcur⟩ := oW.at (by omega)
        obtain ⟨m, hm⟩ : ∃ m, W.length = m + 1 := ⟨W.length - 1, by omega⟩
        have hmW : m < W.length := by omega
        have hS : wr.cell? ⟨g, m, none⟩ = some (.string ⟨(W[m]'hmW).toArray⟩) := by
          obtain ⟨g', off', hx, q⟩ := (oW.els sl_len).at m hmW
          simp only [Option.some.injEq, Addr.mk.injEq, and_true] at hx
          obtain ⟨rfl, rfl⟩ := hx
          have := q 0 _ rfl
          simpa using this
        have hfz : wr.frozen? ⟨g, m, none⟩ = false := frozen_of_block hbk _
        have hxl := hWx _ (List.getElem_mem hmW)
        have hst : stepW W (l[i]) = W.set m (W[m] ++ [l[i]]) := by
          unfold stepW
          rw [if_neg hb, hm, Nat.add_sub_cancel, List.getElem?_eq_getElem hmW]; rfl
        have fin : Hid (OwnR Sl 1 9 (wr.drew.setCell ⟨g, m, none⟩ (.string ⟨(W[m] ++ [l[i]]).toArray⟩)) w.heap.size (.slice (some ⟨g, 0, none⟩) W.length cap) (W.set m (W[m] ++ [l[i]])) ∧ wordsL l = (l.drop (i + 1)).foldl stepW (W.set m (W[m] ++ [l[i]])) ∧ 1 ≤ (W.set m (W[m] ++ [l[i]])).length ∧ (W.set m (W[m] ++ [l[i]])).length ≤ i + 1 + 1 ∧ (∀ x ∈ W.set m (W[m] ++ [l[i]]), x.length ≤ i + 1) ∧ Keeps (fun _ => False) w (wr.drew.setCell ⟨g, m, none⟩ (.string ⟨(W[m] ++ [l[i]]).toArray⟩))) := by
          refine ⟨?_, by rw [hW, hst], by simp; omega, by simp; omega, fun x hx => ?_, kr.drew.setCell (.inl hg) _⟩
          · rw [show (⟨g, m, none⟩ : Addr) = ⟨g, m * 1 + 0, none⟩ by simp]
            exact (oW.keeps (Keeps.refl (fun _ => False) wr).drew (fun _ _ f => f)).set sl_len m 0 (W[m] ++ [l[i]]) (.string ⟨(W[m] ++ [l[i]]).toArray⟩) hmW (by decide) rfl
          · rcases List.mem_or_eq_of_mem_set hx with q | q
            · have := hWx x q; omega
            · rw [q]; simp; omega
        have hx : (l[i]).toNat ≠ 32 := fun h => hb (UInt8.toNat.inj (by rw [h]; rfl))
        have s1 := str_app (W[m]'hmW) [l[i]]
        have t1 : ¬ 9223372036854775807 < (W[m]'hmW).length + 1 := by omega
        have hm1 : (m : Int) < (m : Int) + 1 := by omega
        have hm0 : (0 : Int) ≤ m := by omega
        have hwm : IntKind.i64.wrap (m : Int) = (m : Int) := by rw [IntKind.wrap_i64]; omega
        have hwi : IntKind.i64.wrap ((i : Int) + 1) = (i : Int) + 1 := by rw [IntKind.wrap_i64]; omega
        have hi1 : (0 : Int) ≤ (i : Int) + 1 := by omega
        have hi2 : (i : Int) + 1 ≤ (l.length : Int) := by omega
        have hi3 : (i : Int) ≤ (i : Int) + 1 := by omega
        have HM : Hid (W.length = m + 1) := hm
        generalize W[m]'hmW = x at *
        generalize l[i] = lc at *
        generalize hlx : lc.toNat = lx at *
        have b1 : ((lx : Int) == 32) = false := by simp; omega
        rw [hm] at fin
        simp only [hm]
        clear hh hW hWx oW hb hst hbk hcur
        go_wp2_with fail
        replace hS : wr.drew.cell? ⟨g, m, none⟩ = some (.string ⟨x.toArray⟩) := hS
        replace hfz : wr.drew.frozen? ⟨g, m, none⟩ = false := hfz
        refine wp_until (S := fun X => X.cell? ⟨g, m, none⟩ = some (.string ⟨x.toArray⟩)) 17 18 rfl hmx2 ?_
        simp only [Array.replicate_succ, Array.replicate_zero, List.push_toArray, List.nil_append, List.cons_append]
        refine u_take (i := 0) (v := .slice (some ⟨g, 0, none⟩) (m + 1) cap) 19 rfl rfl (by kernel_rfl) (by kernel_rfl) (by kernel_rfl) (by kernel_rfl) rfl (fun w' hw' => by go_simp) hS ?_
        simp only [Act.put, List.setIfInBounds_toArray, List.set_cons_zero, List.set_cons_succ]
        refine u_take (i := 1) (v := .slice (some ⟨g, 0, none⟩) (m + 1) cap) 20 rfl rfl (by kernel_rfl) (by kernel_rfl) (by kernel_rfl) (by kernel_rfl) rfl (fun w' hw' => by go_simp) hS ?_
        simp only [Act.put, List.setIfInBounds_toArray, List.set_cons_zero, List.set_cons_succ]
        refine u_take (i := 2) (v := .int .i64 ((m : Int) + 1)) 21 rfl rfl (by kernel_rfl) (by kernel_rfl) (by kernel_rfl) (by kernel_rfl) rfl (fun w' hw' => by go_simp) hS ?_
        simp only [Act.put, List.setIfInBounds_toArray, List.set_cons_zero, List.set_cons_succ]
        refine u_take (i := 3) (v := .int .i64 (m : Int)) 22 rfl rfl (by kernel_rfl) (by kernel_rfl) (by kernel_rfl) (by kernel_rfl) rfl (fun w' hw' => by go_simp) hS ?_
        simp only [Act.put, List.setIfInBounds_toArray, List.set_cons_zero, List.set_cons_succ]
        refine u_take (i := 4) (v := .slice (some ⟨g, 0, none⟩) (m + 1) cap) 23 rfl rfl (by kernel_rfl) (by kernel_rfl) (by kernel_rfl) (by kernel_rfl) rfl (fun w' hw' => by go_simp) hS ?_
        simp only [Act.put, List.setIfInBounds_toArray, List.set_cons_zero, List.set_cons_succ]
        refine u_take (i := 5) (v := .slice (some ⟨g, 0, none⟩) (m + 1) cap) 24 rfl rfl (by kernel_rfl) (by kernel_rfl) (by kernel_rfl) (by kernel_rfl) rfl (fun w' hw' => by go_simp) hS ?_
        simp only [Act.put, List.setIfInBounds_toArray, List.set_cons_zero, List.set_cons_succ]
        refine u_take (i := 6) (v := .int .i64 ((m : Int) + 1)) 25 rfl rfl (by kernel_rfl) (by kernel_rfl) (by kernel_rfl) (by kernel_rfl) rfl (fun w' hw' => by go_simp) hS ?_
        simp only [Act.put, List.setIfInBounds_toArray, List.set_cons_zero, List.set_cons_succ]
        refine u_take (i := 7) (v := .int .i64 (m : Int)) 26 rfl rfl (by kernel_rfl) (by kernel_rfl) (by kernel_rfl) (by kernel_rfl) rfl (fun w' hw' => by go_simp) hS ?_
        simp only [Act.put, List.setIfInBounds_toArray, List.set_cons_zero, List.set_cons_succ]
        refine u_take (i := 8) (v := .pointer (some ⟨g, m, none⟩)) 27 rfl rfl (by kernel_rfl) (by kernel_rfl) (by kernel_rfl) (by kernel_rfl) rfl (fun w' hw' => by go_simp) hS ?_
        simp only [Act.put, List.setIfInBounds_toArray, List.set_cons_zero, List.set_cons_succ]
        refine u_take (i := 9) (v := .string ⟨x.toArray⟩) 28 rfl rfl (by kernel_rfl) (by kernel_rfl) (by kernel_rfl) (by kernel_rfl) rfl (fun w' hw' => by have q0 := hw'; go_simp) hS ?_
        simp only [Act.put, List.setIfInBounds_toArray, List.set_cons_zero, List.set_cons_succ]
        refine u_take (i := 10) (v := .string ⟨l.toArray⟩) 29 rfl rfl (by kernel_rfl) (by kernel_rfl) (by kernel_rfl) (by kernel_rfl) rfl (fun w' hw' => by go_simp) hS ?_
        simp only [Act.put, List.setIfInBounds_toArray, List.set_cons_zero, List.set_cons_succ]
        refine u_take (i := 11) (v := .int .i64 (i : Int)) 30 rfl rfl (by kernel_rfl) (by kernel_rfl) (by kernel_rfl) (by kernel_rfl) rfl (fun w' hw' => by go_simp) hS ?_
        simp only [Act.put, List.setIfInBounds_toArray, List.set_cons_zero, List.set_cons_succ]
        refine u_take (i := 12) (v := .int .i64 (i : Int)) 31 rfl rfl (by kernel_rfl) (by kernel_rfl) (by kernel_rfl) (by kernel_rfl) rfl (fun w' hw' => by go_simp) hS ?_
        simp only [Act.put, List.setIfInBounds_toArray, List.set_cons_zero, List.set_cons_succ]
        refine u_take (i := 13) (v := .int .i64 ((i : Int) + 1)) 32 rfl rfl (by kernel_rfl) (by kernel_rfl) (by kernel_rfl) (by kernel_rfl) rfl (fun w' hw' => by go_simp) hS ?_
        simp only [Act.put, List.setIfInBounds_toArray, List.set_cons_zero, List.set_cons_succ]
        refine u_take (i := 14) (v := .string ⟨[lc].toArray⟩) 33 rfl rfl (by kernel_rfl) (by kernel_rfl) (by kernel_rfl) (by kernel_rfl) rfl (fun w' hw' => by go_simp) hS ?_
        simp only [Act.put, List.setIfInBounds_toArray, List.set_cons_zero, List.set_cons_succ]
        refine u_take (i := 15) (v := .string ⟨(x ++ [lc]).toArray⟩) 34 rfl rfl (by kernel_rfl) (by kernel_rfl) (by kernel_rfl) (by kernel_rfl) rfl (fun w' hw' => by go_simp) hS ?_
        simp only [Act.put, List.setIfInBounds_toArray, List.set_cons_zero, List.set_cons_succ]
        refine u_take (i := 16) (v := .pointer (some ⟨g, m, none⟩)) 35 rfl rfl (by kernel_rfl) (by kernel_rfl) (by kernel_rfl) (by kernel_rfl) rfl (fun w' hw' => by go_simp) hS ?_
        simp only [Act.put, List.setIfInBounds_toArray, List.set_cons_zero, List.set_cons_succ]
        refine u_last (w' := wr.drew.setCell ⟨g, m, none⟩ (.string ⟨(x ++ [lc]).toArray⟩)) (by kernel_rfl) rfl rfl rfl (by go_simp) (by kernel_rfl) ?_
        go_wp2_with fail
        go_roundw
        · exact ⟨i + 1, W.set m (x ++ [lc]), by simp, by omega, fin⟩
        · simp [intOf]; omega
    · obtain rfl : i = l.length := by omega
      rw [List.drop_length] at hW
      have fin : Hid (OwnR Sl 1 9 wr w.heap.size u3 (wordsL l) ∧ Keeps (fun _ => False) w wr) := ⟨by rw [hW]; exact oW, kr⟩
      clear hh hW hWx oW
      go_wp2_with fail
      go_ret
      exact ⟨_, rfl, fin.out⟩
theorem rnum_any (l : List UInt8) (hl : l.length < 4294967281) (w : World) (hg : Gv w) : Calls Tryd.prog 70 #[.string ⟨l.toArray⟩] w fun e w' => e = .returned (.int .u64 ((parP l).1 : Int)) ∧ Keeps (fun _ => False) w w' := by
  have P := parse_any l hl w hg
  generalize parP l = p at *
  clear hg
  go_enter Tryd.func70, Tryd.ntmps70
  go_wp2_with fail
  refine P.mono ?_
  rintro ex w1 ⟨⟨x, rfl, _⟩, k1⟩
  go_wp2_with fail
  go_ret
  exact ⟨rfl, k1⟩
end Go.Proofs.YtjaldfmdjnkoeaaDoor
