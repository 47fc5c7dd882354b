/-
  No statement of the seat is proved here. (Several texts in one: AwA, AwB, AwC.)
-/
import Derived.Test.YtkkmkfldldglgaaGreatDoorAqM
import Derived.Laws.Strings3
import Derived.Test.YtkkmkfldldglgaaGreatDoorAsW
import Derived.Test.YtkkmkfldldglgaaGreatDoorAsD

/- The document's way to read a number, against the program's: pure facts. No statement of the seat is proved here. -/
namespace Go.Proofs.YtkkmkfldldglgaaGreatDoor
open Go.RowKit Go.Shelf

theorem cut_str (l : List UInt8) (a b : Nat) : (⟨l.toArray⟩ : ByteArray).extract a b = ⟨((l.drop a).take (b - a)).toArray⟩ := ByteArray.extract_mk l a b
/-- The number of decimal digits, at most a greatest one. -/
def numM (most : Nat) (s : List UInt8) : Option Nat := (decL s).bind fun n => if n ≤ most then some n else none
theorem decGo_ge : ∀ (l : List UInt8) (b : Bool) (n m : Nat), decGo b n l = some m → n ≤ m
  | [], _, n, m, h => by simp [decGo] at h; omega
  | c :: t, b, n, m, h => by
    rw [decGo] at h
    split at h
    · cases h
    · split at h
      · cases h
      · have := decGo_ge t _ _ _ h
        omega
theorem decGo_app : ∀ (l r : List UInt8) (b : Bool) (m : Nat), decGo b m (l ++ r) = (decGo b m l).bind fun n => decGo (b && l.isEmpty) n r
  | [], r, b, m => by simp [decGo]
  | x :: l, r, b, m => by
    rw [List.cons_append, decGo, decGo]
    split
    · rfl
    · split
      · rfl
      · rw [decGo_app l r false _]
        simp
theorem numM_nil (most : Nat) : numM most [] = none := by simp [numM, decL]
theorem numM_none {most : Nat} {s : List UInt8} (h : decL s = none) : numM most s = none := by simp [numM, h]
theorem numM_zero (most : Nat) (c : UInt8) (t : List UInt8) : numM most (48 :: c :: t) = none := by
  apply numM_none
  unfold decL
  rw [if_neg (by simp), decGo, if_neg (by simp), if_neg (by simp), decGo, if_pos (by simp)]
theorem numM_long {most : Nat} {s : List UInt8} (h : 20 < s.length) : numM most s = none := by
  apply numM_none
  cases hd : decL s with
  | none => rfl
  | some n =>
    exfalso
    have hlt := decL_lt hd
    unfold decL at hd
    split at hd
    · cases hd
    · rename_i hne
      have := dec_forth s.length s n rfl hne hd
      have hl : (Lib.decDigits n).length ≤ 20 := by rw [Lib.decDigits_length]; exact Lib.nDigits_le20 _ (by omega)
      rw [← this] at hl
      omega
theorem numM_bad {most : Nat} {s : List UInt8} {k : Nat} (hk : k < s.length) (h : ¬ (48 ≤ (s[k]).toNat ∧ (s[k]).toNat ≤ 57)) : numM most s = none := by
  apply numM_none
  cases hd : decL s with
  | none => rfl
  | some n => exact absurd (decL_mem hd _ (List.getElem_mem hk)) h
theorem numM_big {most : Nat} (_hm : most < 18446744073709551616) {s : List UInt8} {k n : Nat} (hk : k < s.length) (h : decGo true 0 (s.take k) = some n) (_hd : 48 ≤ (s[k]).toNat ∧ (s[k]).toNat ≤ 57) (hb : most < n * 10 + ((s[k]).toNat - 48)) : numM most s = none := by
  unfold numM
  cases hdl : decL s with
  | none => rfl
  | some m =>
    have hge : n * 10 + ((s[k]).toNat - 48) ≤ m := by
      unfold decL at hdl
      split at hdl
      · cases hdl
      · have e : s = s.take k ++ s[k] :: s.drop (k + 1) := by
          conv => lhs; rw [← List.take_append_drop k s, List.drop_eq_getElem_cons hk]
        rw [e, decGo_app, h, Option.bind_some, decGo] at hdl
        split at hdl
        · cases hdl
        · split at hdl
          · cases hdl
          · exact decGo_ge _ _ _ _ hdl
    simp only [Option.bind_some]
    rw [if_neg (by omega)]
theorem num_step {most : Nat} (hm : most < 18446744073709551616) {s : List UInt8} {k n : Nat} (hk : k < s.length) (hz : 1 ≤ k → n ≠ 0) (h : decGo true 0 (s.take k) = some n) (hd : 48 ≤ (s[k]).toNat ∧ (s[k]).toNat ≤ 57) (hb : n * 10 + ((s[k]).toNat - 48) ≤ most) : decGo true 0 (s.take (k + 1)) = some (n * 10 + ((s[k]).toNat - 48)) := by
  rw [List.take_succ_eq_append_getElem hk, decGo_app, h, Option.bind_some, decGo, if_neg, if_neg, decGo]
  · omega
  · rintro (q | q | ⟨q1, q2⟩)
    · omega
    · omega
    · by_cases h1 : 1 ≤ k
      · exact hz h1 q2
      · obtain rfl : k = 0 := by omega
        simp at q1
theorem numM_end {most : Nat} {s : List UInt8} {n : Nat} (hne : s ≠ []) (h : decGo true 0 s = some n) (hn : n ≤ most) : numM most s = some n := by
  unfold numM decL
  rw [if_neg hne, h]
  simp [hn]
end Go.Proofs.YtkkmkfldldglgaaGreatDoor


/- Walks of the document's opOf, number, IsLabel, find (package parleyref09). No statement of the seat is proved here. -/
namespace Go.Proofs.YtkkmkfldldglgaaGreatDoor
open Go.RowKit Go.Shelf

set_option maxRecDepth 100000 in
set_option maxHeartbeats 4000000 in
theorem ropof_any (l : List UInt8) (w : World) : Calls Tryz.prog 68 #[.string ⟨l.toArray⟩] w fun e w' => e = .returned (.int .i64 (((namedN l).getD 0 : Nat) : Int)) ∧ Keeps (fun _ => False) w w' := by
  have RN := rnames_any w
  obtain ⟨X, hX⟩ : ∃ X, X = w.alloc (.cells namesA 9) := ⟨_, rfl⟩
  have hb : X.heap[w.heap.size]? = some (.cells namesA 9 (0, 0)) := by rw [hX]; exact alloc_block _ _
  have kX : Keeps (fun _ => False) w X := by rw [hX]; exact (Keeps.refl _ _).alloc _
  rw [← hX] at RN
  clear hX
  go_enter Tryz.func68, Tryz.ntmps68
  go_wp2_with fail
  refine RN.mono ?_
  rintro e w' ⟨rfl, rfl⟩
  clear RN
  generalize w.heap.size = g at *
  go_wp2_with fail
  go_loopw [4] (fun v wr => ∃ k : Nat, v = .int .i64 k ∧ 1 ≤ k ∧ k ≤ 18 ∧ Hid (∀ j : Nat, 1 ≤ j → j < k → (nms[j]?).getD [] ≠ l) ∧ wr = w') (fun v _ => 18 - (intOf v).toNat)
  case atStart => exact ⟨1, rfl, Nat.le_refl _, by omega, fun j h1 h2 => by omega, rfl⟩
  case round =>
    obtain ⟨k, rfl, hk1, hk2, hh, rfl⟩ := hrel
    by_cases hlt : k ≤ 17
    · have hc : wr.cell? ⟨g, k, none⟩ = some (.string (nm k)) := by rw [cell_of_block hb]; exact namesA_at k (by omega)
      have hki : (k : Int) < 18 := by omega
      unfold nm at hc
      by_cases he : (nms[k]?).getD [] = l
      · have hbb : (ByteArray.toList ⟨((nms[k]?).getD []).toArray⟩ == l) = true := by rw [he]; simp
        generalize ((nms[k]?).getD []).toArray = q at *
        have hn : Hid (namedN l = some k) := namedN_yes hk1 hlt he
        clear hb
        go_wp2_with fail
        go_ret
        exact ⟨by rw [hn.out]; rfl, kX⟩
      · have hbb : (ByteArray.toList ⟨((nms[k]?).getD []).toArray⟩ == l) = false := by simpa using he
        generalize ((nms[k]?).getD []).toArray = q at *
        go_wp2_with fail
        go_roundw
        · refine ⟨k + 1, by simp, by omega, by omega, fun j h1 h2 => ?_, by first | rfl | trivial⟩
          by_cases hj : j = k
          · subst hj; exact he
          · exact hh.out j h1 (by omega)
        · simp [intOf]; omega
    · obtain rfl : k = 18 := by omega
      have hn : Hid (namedN l = none) := namedN_no (fun j h1 h2 => hh.out j h1 (by omega))
      go_wp2_with fail
      go_ret
      exact ⟨by rw [hn.out]; rfl, kX⟩

theorem numM_zero' {most : Nat} : ∀ {l : List UInt8} (h1 : 1 < l.length) (_ : (l[0]'(by omega)).toNat = 48), numM most l = none
  | [x], h, _ => by simp at h
  | x :: c :: t, _, z => by
    have : x = 48 := UInt8.toNat.inj (by simpa using z)
    rw [this]
    exact numM_zero most c t
/-- What number answers. -/
def NumPost (most : Nat) (l : List UInt8) (e : Ending) : Prop := match numM most l with
  | some n => e = .returned (.tuple #[.int .u64 (n : Int), .bool true])
  | none => e = .returned (.tuple #[.int .u64 0, .bool false])
set_option maxRecDepth 100000 in
set_option maxHeartbeats 4000000 in
theorem rnumber_any (most : Nat) (hm : most < 18446744073709551616) (hm9 : 7 ≤ most) (l : List UInt8) (hl : l.length ≤ 140737488355328) (w : World) : Calls Tryz.prog 69 #[.string ⟨l.toArray⟩, .int .u64 (most : Int)] w fun e w' => NumPost most l e ∧ w' = w := by
  have hsz : (⟨l.toArray⟩ : ByteArray).size = l.length := by simp [ByteArray.size]
  have HBAD : Hid (numM most l = none → NumPost most l (.returned (.tuple #[.int .u64 0, .bool false]))) := fun h => by unfold NumPost; rw [h]
  have HOK : Hid (∀ n, numM most l = some n → NumPost most l (.returned (.tuple #[.int .u64 (n : Int), .bool true]))) := fun n h => by unfold NumPost; rw [h]
  by_cases h0 : l = []
  · subst h0
    have hR := HBAD.out (numM_nil most)
    clear HBAD HOK
    go_enter Tryz.func69, Tryz.ntmps69
    go_wp2_with fail
    go_ret2
    exact ⟨hR, rfl⟩
  · have hemp : (ByteArray.toList ⟨l.toArray⟩ == []) = false := by simpa using h0
    have hem : l.isEmpty = false := by cases l; exact absurd rfl h0; rfl
    have hpos := List.length_pos_iff.2 h0
    have hs0 : 0 < (⟨l.toArray⟩ : ByteArray).size := by rw [hsz]; omega
    have hat0 : ((⟨l.toArray⟩ : ByteArray)[0]'hs0).toNat = (l[0]).toNat := rfl
    by_cases hz : (l[0]).toNat = 48 ∧ 1 < l.length
    · have hR := HBAD.out (numM_zero' hz.2 hz.1)
      obtain ⟨z1, z2⟩ := hz
      have h1 : (1 : Int) < l.length := by omega
      rw [z1] at hat0
      clear HBAD HOK z1
      go_enter Tryz.func69, Tryz.ntmps69
      go_wp2_with fail
      go_ret2
      exact ⟨hR, rfl⟩
    · have key : ((((l[0]).toNat : Int) == 48) = false) ∨ ((l[0]).toNat = 48 ∧ ¬ (1 : Int) < l.length) := by
        by_cases hx : (l[0]).toNat = 48
        · exact .inr ⟨hx, by omega⟩
        · exact .inl (by simp; omega)
      have HZ : Hid ((l[0]).toNat = 48 → l.length = 1) := fun h => by omega
      clear hz
      by_cases hlong : 20 < l.length
      · have hR := HBAD.out (numM_long hlong)
        have hi : (20 : Int) < l.length := by omega
        clear HBAD HOK
        rcases key with hk | ⟨hk, hk'⟩
        · generalize (l[0]).toNat = c0 at *
          go_enter Tryz.func69, Tryz.ntmps69
          go_wp2_with fail
          go_ret2
          exact ⟨hR, rfl⟩
        · omega
      · have hi : ¬ (20 : Int) < l.length := by omega
        go_enter Tryz.func69, Tryz.ntmps69
        have HG0 : Hid (∀ k (hk : k < l.length) n, decGo true 0 (l.take k) = some n → (1 ≤ k → n ≠ 0) → 48 ≤ (l[k]).toNat ∧ (l[k]).toNat ≤ 57 → n * 10 + ((l[k]).toNat - 48) ≤ most → decGo true 0 (l.take (k + 1)) = some (n * 10 + ((l[k]).toNat - 48)) ∧ (1 ≤ k + 1 → k + 1 < l.length → n * 10 + ((l[k]).toNat - 48) ≠ 0)) := fun k hk n h1 h2 h3 h4 => by
          refine ⟨num_step hm hk h2 h1 h3 h4, fun _ hlen h => ?_⟩
          by_cases hk1 : 1 ≤ k
          · have := h2 hk1; omega
          · obtain rfl : k = 0 := by omega
            have := HZ.out (by omega)
            omega
        have HG1 : Hid (∀ k (hk : k < l.length) n, decGo true 0 (l.take k) = some n → 48 ≤ (l[k]).toNat ∧ (l[k]).toNat ≤ 57 → most < n * 10 + ((l[k]).toNat - 48) → numM most l = none) := fun k hk n h1 h2 h3 => numM_big hm hk h1 h2 h3
        have HG2 : Hid (∀ k (hk : k < l.length), ¬ (48 ≤ (l[k]).toNat ∧ (l[k]).toNat ≤ 57) → numM most l = none) := fun k hk h => numM_bad hk h
        have HG3 : Hid (∀ n, decGo true 0 (l.take l.length) = some n → n ≤ most → numM most l = some n) := fun n h1 h2 => by
          rw [List.take_length] at h1
          exact numM_end h0 h1 h2
        generalize (l[0]).toNat = c0 at *
        rcases key with hk | ⟨hk, hk'⟩
        all_goals
          go_wp2_with fail
          go_loopw [6, 7] (fun v v2 wr => ∃ (x i : Nat), v = .int .u64 x ∧ v2 = .int .i64 i ∧ i ≤ l.length ∧ x ≤ most ∧ wr = w ∧ Hid (decGo true 0 (l.take i) = some x ∧ (1 ≤ i → i < l.length → x ≠ 0))) (fun _ v _ => l.length - (intOf v).toNat)
          case atStart => exact ⟨0, 0, rfl, rfl, Nat.zero_le _, by omega, rfl, ⟨by simp [decGo], fun h => by omega⟩⟩
          case round =>
            obtain ⟨x, i, rfl, rfl, hil, hx, rfl, hh⟩ := hrel
            by_cases hlt : i < l.length
            · have hli : (i : Int) < l.length := by omega
              have hs : i < (⟨l.toArray⟩ : ByteArray).size := by rw [hsz]; exact hlt
              have hat : ((⟨l.toArray⟩ : ByteArray)[i]'hs).toNat = (l[i]).toNat := rfl
              have G0 := HG0.out i hlt x hh.out.1 (fun h => hh.out.2 h hlt)
              have G1 := HG1.out i hlt x hh.out.1
              have G2 := HG2.out i hlt
              have h256 : (l[i]).toNat < 256 := (l[i]).toNat_lt
              generalize (l[i]).toNat = d at *
              have GG : Hid (_ ∧ _ ∧ _) := ⟨G0, G1, G2⟩
              clear G0 G1 G2 hh HG0 HG1 HG2 HG3 HZ
              by_cases hc1 : d < 48
              · have g1 : (d : Int) < 48 := by omega
                have hRR := HBAD.out (GG.out.2.2 (by omega))
                clear GG
                go_wp2_with fail
                go_ret2
                exact ⟨hRR, rfl⟩
              · by_cases hc2 : 57 < d
                · have g1 : ¬ (d : Int) < 48 := by omega
                  have g2 : (57 : Int) < d := by omega
                  have hRR := HBAD.out (GG.out.2.2 (by omega))
                  clear GG
                  go_wp2_with fail
                  go_ret2
                  exact ⟨hRR, rfl⟩
                · obtain ⟨ci, hci⟩ : ∃ ci : Int, ci = d := ⟨_, rfl⟩
                  have g1 : ¬ ci < 48 := by omega
                  have g2 : ¬ 57 < ci := by omega
                  have hd0 : 0 ≤ ci - 48 := by omega
                  have hd9 : ci - 48 ≤ 9 := by omega
                  have hdc : Hid (ci - 48 = ((d - 48 : Nat) : Int)) := by show ci - 48 = _; omega
                  have hat' : (((⟨l.toArray⟩ : ByteArray)[i]'hs).toNat : Int) = ci := by rw [hat, hci]
                  obtain ⟨X, hX⟩ : ∃ X : Int, X = x := ⟨_, rfl⟩
                  have hX0 : 0 ≤ X := by omega
                  have hXM : X ≤ (most : Int) := by omega
                  have hM1 : (most : Int) < 18446744073709551616 := by omega
                  by_cases hdm : (most : Int) < ci - 48
                  · have hRR := HBAD.out (GG.out.2.1 (by omega) (by have := hdc.out; omega))
                    rw [← hX]
                    have hRR' : Hid (NumPost most l (.returned (.tuple #[.int .u64 0, .bool false]))) := hRR
                    clear GG hat hX hci hRR
                    go_wp2_with fail
                    go_ret2
                    exact ⟨hRR'.out, rfl⟩
                  · by_cases hbig : ((most : Int) - (ci - 48)) / 10 < X
                    · have hRR := HBAD.out (GG.out.2.1 (by omega) (by have := hdc.out; omega))
                      rw [← hX]
                      have hRR' : Hid (NumPost most l (.returned (.tuple #[.int .u64 0, .bool false]))) := hRR
                      clear GG hat hX hci hRR
                      go_wp2_with fail
                      go_ret2
                      exact ⟨hRR'.out, rfl⟩
                    · have hRR := GG.out.1 (by omega) (by have := hdc.out; omega)
                      have b1 : 10 * X < 18446744073709551616 := by omega
                      have b2 : 10 * X + (ci - 48) < 18446744073709551616 := by omega
                      have e2 : Hid (10 * X + (ci - 48) = ((x * 10 + (d - 48) : Nat) : Int)) := by show _ = _; have := hdc.out; omega
                      have e3 : Hid (x * 10 + (d - 48) ≤ most) := by show _ ≤ _; have := hdc.out; omega
                      have hRR' : Hid (decGo true 0 (l.take (i + 1)) = some (x * 10 + (d - 48)) ∧ (1 ≤ i + 1 → i + 1 < l.length → x * 10 + (d - 48) ≠ 0)) := hRR
                      rw [← hX]
                      clear GG hat hX hci hRR
                      go_wp2_with fail
                      go_roundw
                      · exact ⟨x * 10 + (d - 48), i + 1, by rw [← e2.out, Int.mul_comm], by simp, by omega, e3.out, by first | rfl | trivial, hRR'⟩
                      · simp [intOf]; omega
            · have hli : ¬ (i : Int) < l.length := by omega
              obtain rfl : i = l.length := by omega
              have hRR := HOK.out x (HG3.out x hh.out.1 hx)
              clear HG0 HG1 HG2 HG3 HZ hh
              go_wp2_with fail
              go_ret2
              exact ⟨hRR, rfl⟩
end Go.Proofs.YtkkmkfldldglgaaGreatDoor


/- Walks of the document's IsLabel, find, parts (package parleyref09). No statement of the seat is proved here. -/
namespace Go.Proofs.YtkkmkfldldglgaaGreatDoor
open Go.RowKit Go.Shelf

set_option maxRecDepth 100000 in
set_option maxHeartbeats 4000000 in
theorem rislabel_any (l : List UInt8) (w : World) : Calls Tryz.prog 36 #[.string ⟨l.toArray⟩] w fun e w' => e = .returned (.bool (labB l)) ∧ Keeps (fun _ => False) w w' := by
  have hs := size_of l
  have k0 := Keeps.refl (fun _ => False) w
  by_cases h0 : l = []
  · subst h0
    go_enter Tryz.func36, Tryz.ntmps36
    go_wp2_with fail
    go_ret
    exact ⟨rfl, k0⟩
  · have hem : l.isEmpty = false := by cases l; exact absurd rfl h0; rfl
    have hemp : (ByteArray.toList ⟨l.toArray⟩ == []) = false := by simpa using h0
    have hpos := List.length_pos_iff.2 h0
    by_cases h64 : 64 < l.length
    · have hi : (64 : Int) < l.length := by omega
      have hr : labB l = false := by simp [labB]; omega
      rw [hr]
      go_enter Tryz.func36, Tryz.ntmps36
      go_wp2_with fail
      go_ret
      exact ⟨rfl, k0⟩
    · have hi : ¬ (64 : Int) < l.length := by omega
      obtain ⟨c0, t0, hct⟩ : ∃ c t, l = c :: t := by
        cases l with
        | nil => exact absurd rfl h0
        | cons c t => exact ⟨c, t, rfl⟩
      have hhd : (l.head?).map lowB = some (lowB c0) := by rw [hct]; rfl
      have hb0 : (0 : Nat) < (⟨l.toArray⟩ : ByteArray).size := by omega
      have hc0 : ((⟨l.toArray⟩ : ByteArray)[0]'hb0).toNat = c0.toNat := by rw [at_list l 0 hpos]; simp [hct]
      have HLO : Hid (lowB c0 = decide (97 ≤ c0.toNat ∧ c0.toNat ≤ 122)) := rfl
      have HF : Hid (lowB c0 = false → labB l = false) := fun hlow => by simp [labB, hhd, hlow]
      have HE : Hid (lowB c0 = true → (∀ c ∈ l, signB c = true) → labB l = (namedN l).isNone) := fun hlow => labB_end ⟨by omega, by omega⟩ (by rw [hhd, hlow]; rfl)
      have HSO : Hid ((namedN l).isSome = true → labB l = false) := fun h => by
        unfold labB
        cases hn : namedN l with
        | none => rw [hn] at h; cases h
        | some q => simp
      have h256 : c0.toNat < 256 := c0.toNat_lt
      clear hct hhd
      generalize lowB c0 = lb at *
      generalize c0.toNat = x0 at *
      by_cases hlt : x0 < 97
      · have g1 : (x0 : Int) < 97 := by omega
        have hr := HF.out (by rw [HLO.out]; simp; omega)
        rw [hr]
        clear HF HE HSO HLO hr
        go_enter Tryz.func36, Tryz.ntmps36
        go_wp2_with fail
        go_ret
        exact ⟨rfl, k0⟩
      · have g1 : ¬ (x0 : Int) < 97 := by omega
        by_cases hgt : 122 < x0
        · have g2 : (122 : Int) < x0 := by omega
          have hr := HF.out (by rw [HLO.out]; simp; omega)
          rw [hr]
          clear HF HE HSO HLO hr
          go_enter Tryz.func36, Tryz.ntmps36
          go_wp2_with fail
          go_ret
          exact ⟨rfl, k0⟩
        · have g2 : ¬ (122 : Int) < x0 := by omega
          have HEN := HE.out (by rw [HLO.out]; simp; omega)
          have HEN' : Hid ((∀ c ∈ l, signB c = true) → labB l = (namedN l).isNone) := HEN
          have OP := ropof_any l
          clear HF HE HLO HEN
          cases hnm : namedN l with
          | some q =>
            have hq : 0 < q := by
              obtain ⟨q0, q1, q2⟩ := namedN_forth hnm
              omega
            have hqi : (0 : Int) < q := by omega
            have hr := HSO.out (by rw [hnm]; rfl)
            rw [hr]
            rw [hnm] at OP
            simp only [Option.getD_some] at OP
            clear HEN' HSO hr hnm
            go_enter Tryz.func36, Tryz.ntmps36
            go_wp2_with fail
            refine (OP _).mono ?_
            rintro e w1 ⟨rfl, k1⟩
            clear OP
            go_wp2_with fail
            go_ret
            exact ⟨rfl, k1⟩
          | none =>
            rw [hnm] at HEN' OP
            simp only [Option.getD_none] at OP
            clear HSO hnm
            go_enter Tryz.func36, Tryz.ntmps36
            go_wp2_with fail
            refine (OP _).mono ?_
            rintro e w1 ⟨rfl, k1⟩
            clear OP
            go_wp2_with fail
            go_loopw [3] (fun v wr => ∃ k : Nat, v = .int .i64 k ∧ k ≤ l.length ∧ wr = w1 ∧ Hid (∀ c ∈ l.take k, signB c = true)) (fun v _ => l.length - (intOf v).toNat)
            case atStart => exact ⟨0, rfl, Nat.zero_le _, rfl, fun c hc => by simp at hc⟩
            case round =>
              obtain ⟨k, rfl, hk, rfl, hh⟩ := hrel
              by_cases hlk : k < l.length
              · have hki : (k : Int) < l.length := by omega
                have hbk : k < (⟨l.toArray⟩ : ByteArray).size := by omega
                have hck : ((⟨l.toArray⟩ : ByteArray)[k]'hbk).toNat = (l[k]).toNat := by rw [at_list l k hlk]
                have hnext : Hid (signB l[k] = true → ∀ c ∈ l.take (k + 1), signB c = true) := fun hx c hc => by
                  rw [List.take_succ_eq_append_getElem hlk] at hc
                  rcases List.mem_append.1 hc with hc | hc
                  · exact hh.out c hc
                  · simp only [List.mem_singleton] at hc; subst hc; exact hx
                have hbad : Hid (signB l[k] = false → labB l = false) := fun hx => labB_bad hlk hx
                have HSG : Hid (signB l[k] = (decide (97 ≤ (l[k]).toNat ∧ (l[k]).toNat ≤ 122) || decide (48 ≤ (l[k]).toNat ∧ (l[k]).toNat ≤ 57) || decide ((l[k]).toNat = 95))) := by
                  unfold Hid signB lowB digB
                  congr 1
                  rw [Bool.eq_iff_iff]
                  simp only [beq_iff_eq, decide_eq_true_eq]
                  exact ⟨fun h => by rw [h]; rfl, fun h => UInt8.toNat.inj (by rw [h]; rfl)⟩
                have h256' : (l[k]).toNat < 256 := (l[k]).toNat_lt
                generalize signB l[k] = sg at *
                generalize (l[k]).toNat = x at *
                clear hh HEN'
                by_cases a1 : 97 ≤ x
                · have b1 : (97 : Int) ≤ x := by omega
                  by_cases a2 : x ≤ 122
                  · have b2 : (x : Int) ≤ 122 := by omega
                    have b3 : ¬ (x : Int) ≤ 57 := by omega
                    have b4 : (48 : Int) ≤ x := by omega
                    have hn := hnext.out (by rw [HSG.out]; simp; omega)
                    have HN : Hid (∀ c ∈ l.take (k + 1), signB c = true) := hn
                    clear hnext hbad HSG hn
                    go_wp2_with fail
                    go_roundw
                    · exact ⟨k + 1, by simp, by omega, by first | rfl | trivial, HN⟩
                    · simp [intOf]; omega
                  · have b2 : ¬ (x : Int) ≤ 122 := by omega
                    have b3 : ¬ (x : Int) ≤ 57 := by omega
                    have b4 : (48 : Int) ≤ x := by omega
                    have b5 : ((x : Int) == 95) = false := by simp; omega
                    have b6 : ((x : Int) != 95) = true := by simp; omega
                    have hr := hbad.out (by rw [HSG.out]; simp; omega)
                    clear hnext hbad HSG
                    go_wp2_with fail
                    go_ret
                    exact ⟨by first | rfl | (rw [hr]; rfl), k1⟩
                · have b1 : ¬ (97 : Int) ≤ x := by omega
                  by_cases a3 : 48 ≤ x
                  · have b4 : (48 : Int) ≤ x := by omega
                    by_cases a4 : x ≤ 57
                    · have b3 : (x : Int) ≤ 57 := by omega
                      have hn := hnext.out (by rw [HSG.out]; simp; omega)
                      have HN : Hid (∀ c ∈ l.take (k + 1), signB c = true) := hn
                      clear hnext hbad HSG hn
                      go_wp2_with fail
                      go_roundw
                      · exact ⟨k + 1, by simp, by omega, by first | rfl | trivial, HN⟩
                      · simp [intOf]; omega
                    · have b3 : ¬ (x : Int) ≤ 57 := by omega
                      by_cases a5 : x = 95
                      · subst a5
                        have hn := hnext.out (by rw [HSG.out]; simp)
                        have HN : Hid (∀ c ∈ l.take (k + 1), signB c = true) := hn
                        clear hnext hbad HSG hn
                        go_wp2_with fail
                        go_roundw
                        · exact ⟨k + 1, by simp, by omega, by first | rfl | trivial, HN⟩
                        · simp [intOf]; omega
                      · have b5 : ((x : Int) == 95) = false := by simp; omega
                        have b6 : ((x : Int) != 95) = true := by simp; omega
                        have hr := hbad.out (by rw [HSG.out]; simp; omega)
                        clear hnext hbad HSG
                        go_wp2_with fail
                        go_ret
                        exact ⟨by first | rfl | (rw [hr]; rfl), k1⟩
                  · have b4 : ¬ (48 : Int) ≤ x := by omega
                    have b5 : ((x : Int) == 95) = false := by simp; omega
                    have b6 : ((x : Int) != 95) = true := by simp; omega
                    have hr := hbad.out (by rw [HSG.out]; simp; omega)
                    clear hnext hbad HSG
                    go_wp2_with fail
                    go_ret
                    exact ⟨by first | rfl | (rw [hr]; rfl), k1⟩
              · have hki : ¬ (k : Int) < l.length := by omega
                obtain rfl : k = l.length := by omega
                have hr := HEN'.out (by have := hh.out; rwa [List.take_length] at this)
                have hr' : Hid (labB l = true) := by rw [Hid, hr]; rfl
                clear hr hh HEN'
                go_wp2_with fail
                go_ret
                exact ⟨by rw [hr'.out]; rfl, k1⟩

/-- The place of a colon. -/
def colI (s : List UInt8) : Int := if s.idxOf 58 < s.length then (s.idxOf 58 : Nat) else -1
theorem idx_at {s : List UInt8} {k : Nat} (hk : k < s.length) (h : s[k] = 58) (hn : (58 : UInt8) ∉ s.take k) : s.idxOf 58 = k := by
  have h1 : s = s.take k ++ s.drop k := (List.take_append_drop k s).symm
  rw [h1, List.idxOf_append, if_neg hn, List.drop_eq_getElem_cons hk, h]
  simp
  omega
set_option maxRecDepth 100000 in
set_option maxHeartbeats 4000000 in
theorem rfind_any (l : List UInt8) (hl : l.length ≤ 140737488355328) (w : World) : Calls Tryz.prog 35 #[.string ⟨l.toArray⟩] w fun e w' => e = .returned (.int .i64 (colI l)) ∧ w' = w := by
  have hsz := size_of l
  go_enter Tryz.func35, Tryz.ntmps35
  go_wp2_with fail
  go_loopw [3] (fun v wr => ∃ k : Nat, v = .int .i64 k ∧ k ≤ l.length ∧ wr = w ∧ Hid ((58 : UInt8) ∉ l.take k)) (fun v _ => l.length - (intOf v).toNat)
  case atStart => exact ⟨0, rfl, Nat.zero_le _, rfl, by unfold Hid; simp⟩
  case round =>
    obtain ⟨k, rfl, hk, rfl, hh⟩ := hrel
    by_cases hlk : k < l.length
    · have hki : (k : Int) < l.length := by omega
      have hbk : k < (⟨l.toArray⟩ : ByteArray).size := by omega
      have hck : ((⟨l.toArray⟩ : ByteArray)[k]'hbk).toNat = (l[k]).toNat := by rw [at_list l k hlk]
      by_cases hc : l[k] = 58
      · have hr : Hid (colI l = (k : Int)) := by
          unfold Hid colI
          rw [idx_at hlk hc hh.out, if_pos hlk]
        rw [hc, show (58 : UInt8).toNat = 58 from rfl] at hck
        clear hh
        go_wp2_with fail
        go_ret
        exact ⟨by rw [hr.out]; rfl, rfl⟩
      · have hcn : (l[k]).toNat ≠ 58 := fun h => hc (UInt8.toNat.inj (by rw [h]; rfl))
        have hn : Hid ((58 : UInt8) ∉ l.take (k + 1)) := by
          unfold Hid
          rw [List.take_succ_eq_append_getElem hlk]
          intro hm
          rcases List.mem_append.1 hm with hm | hm
          · exact hh.out hm
          · simp only [List.mem_singleton] at hm; exact hc hm.symm
        generalize (l[k]).toNat = x at *
        have hbe : ((x : Int) == 58) = false := by simp; omega
        clear hh
        go_wp2_with fail
        go_roundw
        · exact ⟨k + 1, by simp, by omega, by first | rfl | trivial, hn⟩
        · simp [intOf]; omega
    · have hki : ¬ (k : Int) < l.length := by omega
      obtain rfl : k = l.length := by omega
      have hr : Hid (colI l = -1) := by
        unfold Hid colI
        have := hh.out
        rw [List.take_length] at this
        rw [if_neg]
        intro h
        exact this (List.idxOf_lt_length_iff.1 h)
      clear hh
      go_wp2_with fail
      go_ret
      exact ⟨by rw [hr.out]; rfl, rfl⟩
end Go.Proofs.YtkkmkfldldglgaaGreatDoor
