
/- Walks of next, isLetter, isLabel, targetPart (package asm), over what Go's library does. No statement of the seat is proved here. -/
import Derived.Test.YtkkmkfldldglgaaGreatDoorAsC
import Derived.Test.YtkkmkfldldglgaaGreatDoorAqM
import Derived.Lib.CutLaws
namespace Go.Proofs.YtkkmkfldldglgaaGreatDoor
open Go.RowKit Go.Shelf

theorem size_of (l : List UInt8) : (⟨l.toArray⟩ : ByteArray).size = l.length := by simp [ByteArray.size]
theorem keeps_below {w w' : World} (h : Below w.heap.size w w') : Keeps (fun _ => False) w w' := Keeps.of_below h _

theorem trimLeft_any (l : List UInt8) (w : World) : Calls Tryz.prog 98 #[.string ⟨l.toArray⟩, .string ⟨#[32, 9]⟩] w fun e w' => e = .returned (.string ⟨(l.dropWhile blk).toArray⟩) ∧ Keeps (fun _ => False) w w' := by
  have h := Any.strings_TrimLeft_laid lays161 (by kernel_rfl) ⟨l.toArray⟩ ⟨#[32, 9]⟩ w (by decide) (ascii_of_all (by decide))
  have e : Lib.trimLeftS l [32, 9] = l.dropWhile blk := by
    unfold Lib.trimLeftS
    congr 1
    funext c
    simp [blk]
    rfl
  refine h.mono fun e' w' ⟨h1, h2⟩ => ⟨?_, keeps_below h2⟩
  rw [← e]; exact h1
theorem suffix_one (l : List UInt8) (c : UInt8) : Lib.hasSuffix l [c] = decide (l.getLast? = some c) := by
  unfold Lib.hasSuffix
  rcases List.eq_nil_or_concat l with rfl | ⟨x, d, rfl⟩
  · simp [List.isSuffixOf]
  · by_cases h : c = d
    · subst h; simp [List.isSuffixOf, List.isPrefixOf]
    · have h' : ¬ d = c := fun e => h e.symm
      simp [List.isSuffixOf, List.isPrefixOf, h, h']
def trimC (l : List UInt8) (c : UInt8) : List UInt8 := if l.getLast? = some c then l.dropLast else l
theorem trim_one (l : List UInt8) (c : UInt8) : Lib.trimSuffix l [c] = trimC l c := by
  unfold Lib.trimSuffix trimC
  rw [suffix_one]
  by_cases h : l.getLast? = some c
  · rw [if_pos (by simpa using h), if_pos h, List.dropLast_eq_take]; rfl
  · rw [if_neg (by simpa using h), if_neg h]
theorem trimSuffix_any (l : List UInt8) (hl : l.length < 4294967281) (w : World) : Calls Tryz.prog 84 #[.string ⟨l.toArray⟩, .string ⟨#[10]⟩] w fun e w' => e = .returned (.string ⟨(trimC l 10).toArray⟩) ∧ w' = w := by
  have h := Any.strings_TrimSuffix lays102 ⟨l.toArray⟩ ⟨#[10]⟩ w (by rw [size_of]; omega)
  rw [← trim_one]; exact h
theorem cutSuffix_any (l : List UInt8) (c : UInt8) (hl : l.length < 4294967281) (w : World) : Calls Tryz.prog 77 #[.string ⟨l.toArray⟩, .string ⟨#[c]⟩] w fun e w' => e = .returned (.tuple #[.string ⟨(trimC l c).toArray⟩, .bool (decide (l.getLast? = some c))]) ∧ w' = w := by
  have h := Any.strings_CutSuffix lays104 ⟨l.toArray⟩ ⟨#[c]⟩ w (by rw [size_of]; omega)
  rw [← trim_one, ← suffix_one]; exact h

/-- The first place of a byte. -/
theorem index_one (c : UInt8) : ∀ l : List UInt8, (Lib.index l [c] = -1 ∧ l.takeWhile (fun x => x != c) = l) ∨ ∃ i : Nat, Lib.index l [c] = i ∧ l.takeWhile (fun x => x != c) = l.take i ∧ i < l.length
  | [] => .inl ⟨by rfl, rfl⟩
  | d :: t => by
    by_cases hc : d = c
    · subst hc
      refine .inr ⟨0, ?_, by simp, by simp⟩
      exact Lib.index_first (i := 0) (Nat.zero_le _) (by simp [Lib.occAt]) (fun _ h => absurd h (Nat.not_lt_zero _))
    · have hno : Lib.NoOcc (d :: t) [c] 1 := fun j hj => by
        obtain rfl : j = 0 := by omega
        have hc' : ¬ c = d := fun h => hc h.symm
        simp [Lib.occAt, List.isPrefixOf, hc']
      have hd := Lib.index_drop hno (by simp)
      simp only [List.drop_succ_cons, List.drop_zero] at hd
      have ht : (d :: t).takeWhile (fun x => x != c) = d :: t.takeWhile (fun x => x != c) := by simp [hc]
      rcases index_one c t with ⟨h1, h2⟩ | ⟨i, h1, h2, h3⟩
      · exact .inl ⟨by rw [hd, h1]; rfl, by rw [ht, h2]⟩
      · refine .inr ⟨i + 1, ?_, by rw [ht, h2]; rfl, by simp; omega⟩
        rw [hd, h1, if_neg (by simp)]
        simp
theorem cut_one (l : List UInt8) (c : UInt8) : (Lib.cut l [c]).1 = l.takeWhile (fun x => x != c) := by
  unfold Lib.cut
  rcases index_one c l with ⟨h1, h2⟩ | ⟨i, h1, h2, h3⟩
  · rw [if_neg (by rw [h1]; decide), h2]
  · rw [if_pos (by rw [h1]; omega), h1, h2]; simp
/-- What the calls read of the program's variables, for Cut. -/
theorem Gl.max145 {w : World} (h : Gl w) : ∃ m, w.cell? ⟨lays145_ren.g 1, 0, none⟩ = some (.int .i64 m) := h.max
theorem cut59_any (l : List UInt8) (hl : l.length < 4294967281) (w : World) (hw : Gl w) : Calls Tryz.prog 78 #[.string ⟨l.toArray⟩, .string ⟨#[59]⟩] w fun e w' => (∃ x b, e = .returned (.tuple #[.string ⟨(l.takeWhile (fun c => c != 59)).toArray⟩, .string x, .bool b])) ∧ Keeps (fun _ => False) w w' := by
  obtain ⟨m, hm⟩ := hw.max145
  have h := Any.strings_Cut lays145 ⟨l.toArray⟩ ⟨#[59]⟩ m w (by rw [size_of]; omega) hm
  refine h.mono fun e w' ⟨h1, n, h2⟩ => ?_
  change e = .returned (.tuple #[.string ⟨(Lib.cut l [59]).1.toArray⟩, .string ⟨(Lib.cut l [59]).2.1.toArray⟩, .bool (Lib.cut l [59]).2.2]) at h1
  rw [cut_one] at h1
  exact ⟨⟨_, _, h1⟩, by rw [h2]; exact (Keeps.refl _ w).drewN n⟩

theorem nextW_no {l : List UInt8} (h : Lib.indexAny (l.dropWhile blk) [32, 9, 58] = -1) : nextW l = (l.dropWhile blk, []) := by
  unfold nextW
  refine wordOf_no _ ?_
  generalize l.dropWhile blk = m at h
  induction m with
  | nil => simp
  | cons c t ih =>
    unfold Lib.indexAny at h
    split at h
    · cases h
    · rename_i hc
      split at h
      · rename_i ht
        intro d hd
        rcases List.mem_cons.1 hd with rfl | hd
        · simp at hc; simp [brk, blk, hc]
        · exact ih (by simpa using ht) d hd
      · rename_i ht
        have := Lib.indexAny_ge [32, 9, 58] t
        simp at ht
        omega
theorem nextW_at {l : List UInt8} {i : Int} (h : Lib.indexAny (l.dropWhile blk) [32, 9, 58] = i) (h0 : 0 ≤ i) : ∃ hi : i.toNat < (l.dropWhile blk).length, brk ((l.dropWhile blk)[i.toNat]) = true ∧ nextW l = if (l.dropWhile blk)[i.toNat] = 58 then ((l.dropWhile blk).take (i.toNat + 1), (l.dropWhile blk).drop (i.toNat + 1)) else ((l.dropWhile blk).take i.toNat, (l.dropWhile blk).drop i.toNat) := by
  unfold nextW
  generalize l.dropWhile blk = m at h ⊢
  have key : ∀ (m : List UInt8) (i : Int), Lib.indexAny m [32, 9, 58] = i → 0 ≤ i → ∃ hi : i.toNat < m.length, brk (m[i.toNat]) = true ∧ ∀ j (hj : j < i.toNat), brk (m[j]'(by omega)) = false := by
    intro m
    induction m with
    | nil => intro i h h0; unfold Lib.indexAny at h; omega
    | cons c t ih =>
      intro i h h0
      unfold Lib.indexAny at h
      split at h
      · rename_i hc
        subst h
        refine ⟨by simp, ?_, fun j hj => by simp at hj⟩
        simp at hc
        rcases hc with rfl | rfl | rfl <;> rfl
      · rename_i hc
        split at h
        · omega
        · rename_i ht
          have hge := Lib.indexAny_ge [32, 9, 58] t
          simp at ht
          obtain ⟨h1, h2, h3⟩ := ih _ rfl (by omega)
          have e : i.toNat = (Lib.indexAny t [32, 9, 58]).toNat + 1 := by omega
          refine ⟨by rw [e]; simp; omega, ?_, fun j hj => ?_⟩
          · simp only [e, List.getElem_cons_succ]; exact h2
          · cases j with
            | zero => simp at hc; simp [brk, blk, hc]
            | succ j => simp only [List.getElem_cons_succ]; exact h3 j (by omega)
  obtain ⟨h1, h2, h3⟩ := key m i h h0
  exact ⟨h1, h2, wordOf_at m i.toNat h1 h3 h2⟩

theorem extract_take (l : List UInt8) (k : Nat) : (⟨l.toArray⟩ : ByteArray).extract 0 k = ⟨(l.take k).toArray⟩ := by
  apply ByteArray.ext; simp [ByteArray.data_extract]
theorem extract_drop (l : List UInt8) (k : Nat) : (⟨l.toArray⟩ : ByteArray).extract k l.length = ⟨(l.drop k).toArray⟩ := by
  apply ByteArray.ext
  simp only [ByteArray.data_extract, List.extract_toArray, List.extract_eq_take_drop]
  congr 1
  rw [List.take_of_length_le (by simp)]

set_option maxRecDepth 100000 in
set_option maxHeartbeats 2000000 in
theorem next_any (l : List UInt8) (hl : l.length < 4294967281) (w : World) : Calls Tryz.prog 85 #[.string ⟨l.toArray⟩] w fun e w' => e = .returned (.tuple #[.string ⟨(nextW l).1.toArray⟩, .string ⟨(nextW l).2.toArray⟩]) ∧ Keeps (fun _ => False) w w' := by
  have TL := trimLeft_any l w
  have hml : (l.dropWhile blk).length < 4294967281 := Nat.lt_of_le_of_lt (dropWhile_len blk l) hl
  have IA := iany_any (l.dropWhile blk) hml
  have hno := @nextW_no l
  have hat := @nextW_at l
  have hge := Lib.indexAny_ge [32, 9, 58] (l.dropWhile blk)
  generalize nextW l = nw at *
  generalize l.dropWhile blk = m at *
  generalize Lib.indexAny m [32, 9, 58] = i at *
  clear hl
  by_cases h0 : i < 0
  · have := hno (by omega)
    subst this
    clear hno hat hge
    go_enter Tryz.func85, Tryz.ntmps85
    go_wp2_with fail
    refine TL.mono ?_
    rintro e w1 ⟨rfl, k1⟩
    go_wp2_with fail
    refine (IA _).mono ?_
    rintro e w2 ⟨rfl, k2⟩
    have kk := k1.trans (keeps_below k2)
    go_wp2_with fail
    go_ret2
    exact ⟨rfl, kk⟩
  · obtain ⟨hi, hb, hnw⟩ := hat rfl (by omega)
    obtain ⟨k, rfl⟩ : ∃ k : Nat, i = k := ⟨i.toNat, by omega⟩
    simp only [Int.toNat_natCast] at hi hb hnw
    clear hno hat hge h0 hb
    have hs := size_of m
    have hkb : k < (⟨m.toArray⟩ : ByteArray).size := by omega
    have hki : (k : Int) < (m.length : Int) := by omega
    by_cases h58 : m[k] = 58
    · rw [if_pos h58] at hnw
      subst hnw
      have hx : (((⟨m.toArray⟩ : ByteArray)[k]'hkb).toNat : Int) = 58 := by rw [at_list m k hi, h58]; rfl
      have e1 := extract_take m (k + 1)
      have e2 := extract_drop m (k + 1)
      clear h58
      go_enter Tryz.func85, Tryz.ntmps85
      go_wp2_with fail
      refine TL.mono ?_
      rintro e w1 ⟨rfl, k1⟩
      go_wp2_with fail
      refine (IA _).mono ?_
      rintro e w2 ⟨rfl, k2⟩
      have kk := k1.trans (keeps_below k2)
      have hk1 : (k : Int) + 1 ≤ (m.length : Int) := by omega
      have hk0 : (0 : Int) ≤ (k : Int) + 1 := by omega
      go_wp2_with fail
      go_quiet (fail)
      go_wp2_with fail
      go_ret2
      exact ⟨rfl, kk.drewN _⟩
    · rw [if_neg h58] at hnw
      subst hnw
      have hx : ((((⟨m.toArray⟩ : ByteArray)[k]'hkb).toNat : Int) == 58) = false := by
        rw [at_list m k hi, beq_eq_false_iff_ne]
        intro h
        have h2 : (m[k]).toNat = 58 := by omega
        exact h58 (UInt8.toNat_inj.1 h2)
      have e1 := extract_take m k
      have e2 := extract_drop m k
      have hk1 : (k : Int) ≤ (m.length : Int) := by omega
      clear h58
      go_enter Tryz.func85, Tryz.ntmps85
      go_wp2_with fail
      refine TL.mono ?_
      rintro e w1 ⟨rfl, k1⟩
      go_wp2_with fail
      refine (IA _).mono ?_
      rintro e w2 ⟨rfl, k2⟩
      have kk := k1.trans (keeps_below k2)
      go_wp2_with fail
      go_quiet (fail)
      go_wp2_with fail
      go_ret2
      exact ⟨rfl, kk.drewN _⟩

theorem isLetter_any (c : UInt8) (w : World) : Calls Tryz.prog 124 #[.int .u8 c.toNat] w fun e w' => e = .returned (.bool (lowB c)) ∧ w' = w := by
  have hb : lowB c = decide ((97 : Int) ≤ c.toNat ∧ (c.toNat : Int) ≤ 122) := by unfold lowB; congr 1; simp; omega
  rw [hb]
  generalize (c.toNat : Int) = n at *
  by_cases h1 : 97 ≤ n
  · by_cases h2 : n ≤ 122
    · go_enter Tryz.func124, Tryz.ntmps124
      go_wp2
      go_ret
      exact ⟨by rw [decide_eq_true ⟨h1, h2⟩]; rfl, rfl⟩
    · go_enter Tryz.func124, Tryz.ntmps124
      go_wp2
      go_ret
      exact ⟨by rw [decide_eq_false (by omega)]; rfl, rfl⟩
  · go_enter Tryz.func124, Tryz.ntmps124
    go_wp2
    go_ret
    exact ⟨by rw [decide_eq_false (by omega)]; rfl, rfl⟩

theorem npost_namedN {l : List UInt8} {e : Ending} (h : NPost l e) : (∃ k : Nat, namedN l = some k ∧ 1 ≤ k ∧ k ≤ 17 ∧ e = .returned (.tuple #[.int .i64 k, .bool true])) ∨ (namedN l = none ∧ e = .returned (.tuple #[.int .i64 0, .bool false])) := by
  rcases h with ⟨k, h1, h2, h3, h4⟩ | ⟨h1, h2⟩
  · exact .inl ⟨k, namedN_yes h1 h2 h3, h1, h2, h4⟩
  · exact .inr ⟨namedN_no h1, h2⟩

/-- The rest of isLabel's answer, once all signs are looked at. -/
theorem labB_end {l : List UInt8} (h1 : 1 ≤ l.length ∧ l.length ≤ 64) (h2 : ((l.head?).map lowB).getD false = true) (h3 : ∀ c ∈ l, signB c = true) : labB l = (namedN l).isNone := by
  simp [labB, h1, h2, List.all_eq_true.2 h3]
theorem labB_bad {l : List UInt8} {k : Nat} (hk : k < l.length) (h : signB l[k] = false) : labB l = false := by
  cases hl : labB l with
  | false => rfl
  | true => rw [labB_sign hl _ (List.getElem_mem hk)] at h; cases h

set_option maxRecDepth 100000 in
set_option maxHeartbeats 2000000 in
theorem isLabel_any (l : List UInt8) (w : World) (hw : Nms w) : Calls Tryz.prog 100 #[.string ⟨l.toArray⟩] w fun e w' => e = .returned (.bool (labB l)) ∧ w' = w := by
  have hs := size_of l
  by_cases h0 : l = []
  · subst h0
    go_enter Tryz.func100, Tryz.ntmps100
    go_wp2_with fail
    go_ret
    exact ⟨rfl, rfl⟩
  · have hem : l.isEmpty = false := by cases l; exact absurd rfl h0; rfl
    have hemp : (ByteArray.toList ⟨l.toArray⟩ == []) = false := by simpa using h0
    have hpos := List.length_pos_iff.2 h0
    by_cases h64 : 64 < l.length
    · have hi : (64 : Int) < l.length := by omega
      have hr : labB l = false := by simp [labB]; omega
      rw [hr]
      go_enter Tryz.func100, Tryz.ntmps100
      go_wp2_with fail
      go_ret
      exact ⟨rfl, rfl⟩
    · have hi : ¬ (64 : Int) < l.length := by omega
      obtain ⟨c0, t0, hct⟩ : ∃ c t, l = c :: t := by
        cases l with
        | nil => exact absurd rfl h0
        | cons c t => exact ⟨c, t, rfl⟩
      have hhd : (l.head?).map lowB = some (lowB c0) := by rw [hct]; rfl
      have hb0 : (0 : Nat) < (⟨l.toArray⟩ : ByteArray).size := by omega
      have hc0 : (⟨l.toArray⟩ : ByteArray)[0]'hb0 = c0 := by rw [at_list l 0 hpos]; simp [hct]
      have IL := isLetter_any
      have L0 : ∀ w, Calls Tryz.prog 124 #[.int .u8 (((⟨l.toArray⟩ : ByteArray)[0]'hb0).toNat : Int)] w fun e w' => e = .returned (.bool (lowB c0)) ∧ w' = w := fun w => by rw [hc0]; exact isLetter_any c0 w
      clear hct hc0
      cases hlow : lowB c0
      · have hr : labB l = false := by simp [labB, hhd, hlow]
        rw [hr]
        rw [hlow] at L0
        clear IL hhd hlow hr
        go_enter Tryz.func100, Tryz.ntmps100
        go_wp2_with fail
        refine (L0 _).mono ?_
        rintro e w1 ⟨rfl, rfl⟩
        go_wp2_with fail
        go_ret
        exact ⟨rfl, rfl⟩
      · rw [hlow] at L0
        have hend : Hid ((∀ c ∈ l, signB c = true) → labB l = (namedN l).isNone) := labB_end ⟨by omega, by omega⟩ (by rw [hhd, hlow]; rfl)
        have NM := named_any l w hw
        clear hhd hlow
        go_enter Tryz.func100, Tryz.ntmps100
        go_wp2_with fail
        refine (L0 _).mono ?_
        rintro e w1 ⟨rfl, hw1⟩
        subst hw1
        clear L0
        go_wp2_with fail
        go_loopw [22] (fun v wr => ∃ k : Nat, v = .int .i64 k ∧ k ≤ l.length ∧ wr = w1 ∧ Hid (∀ c ∈ l.take k, signB c = true)) (fun v _ => l.length - (intOf v).toNat)
        case atStart => exact ⟨0, rfl, Nat.zero_le _, rfl, fun c hc => by simp at hc⟩
        case round =>
          obtain ⟨k, rfl, hk, rfl, hh⟩ := hrel
          by_cases hlt : k < l.length
          · have hki : (k : Int) < l.length := by omega
            have hbk : k < (⟨l.toArray⟩ : ByteArray).size := by omega
            have hck : (⟨l.toArray⟩ : ByteArray)[k]'hbk = l[k] := at_list l k hlt
            have hnext : Hid (signB l[k] = true → ∀ c ∈ l.take (k + 1), signB c = true) := fun hx c hc => by
              rw [List.take_succ_eq_append_getElem hlt] at hc
              rcases List.mem_append.1 hc with hc | hc
              · exact hh.out c hc
              · simp only [List.mem_singleton] at hc; subst hc; exact hx
            have hbad : Hid (signB l[k] = false → labB l = false) := fun hx => labB_bad hlt hx
            have LK : ∀ w, Calls Tryz.prog 124 #[.int .u8 (((⟨l.toArray⟩ : ByteArray)[k]'hbk).toNat : Int)] w fun e w' => e = .returned (.bool (lowB l[k])) ∧ w' = w := fun w => by rw [hck]; exact isLetter_any _ w
            rw [hck] at LK
            generalize l[k]'hlt = c at *
            have hcn : ∀ n : Nat, c = UInt8.ofNat n → n < 256 → c.toNat = n := fun n h h2 => by rw [h]; simp; omega
            clear IL hh hend NM
            cases hlo : lowB c
            · rw [hlo] at LK
              by_cases h48 : c.toNat < 48
              · have g1 : (c.toNat : Int) < 48 := by omega
                have g2 : ((c.toNat : Int) != 95) = true := by simp; omega
                have hsg : signB c = false := by
                  have : ¬ c = 95 := by rintro rfl; simp at h48
                  simp [signB, hlo, digB, this]; omega
                have hr := hbad.out hsg
                clear hnext hbad hcn hlo hsg
                go_wp2_with (go_at_call 124; refine (LK _).mono ?_; rintro e w' ⟨rfl, hw'⟩; replace hw' := hw'.symm; subst hw')
                go_ret
                exact ⟨by rw [hr]; rfl, rfl⟩
              · have g1 : ¬ (c.toNat : Int) < 48 := by omega
                by_cases h57 : 57 < c.toNat
                · have g2 : (57 : Int) < c.toNat := by omega
                  by_cases h95 : c = 95
                  · have g3 : ((c.toNat : Int) != 95) = false := by rw [h95]; rfl
                    have hn := hnext.out (by rw [h95]; rfl)
                    clear hnext hbad hcn hlo h95
                    go_wp2_with (go_at_call 124; refine (LK _).mono ?_; rintro e w' ⟨rfl, hw'⟩; replace hw' := hw'.symm; subst hw')
                    go_roundw
                    · exact ⟨k + 1, by simp, by omega, by first | rfl | trivial, hn⟩
                    · simp [intOf]; omega
                  · have g3 : ((c.toNat : Int) != 95) = true := by
                      simp only [bne_iff_ne, ne_eq]
                      intro h
                      exact h95 (UInt8.toNat_inj.1 (by simp; omega))
                    have hr := hbad.out (by simp [signB, hlo, digB, h95]; omega)
                    clear hnext hbad hcn hlo h95
                    go_wp2_with (go_at_call 124; refine (LK _).mono ?_; rintro e w' ⟨rfl, hw'⟩; replace hw' := hw'.symm; subst hw')
                    go_ret
                    exact ⟨by rw [hr]; rfl, rfl⟩
                · have g2 : ¬ (57 : Int) < c.toNat := by omega
                  have hn := hnext.out (by simp [signB, digB]; omega)
                  clear hnext hbad hcn hlo
                  go_wp2_with (go_at_call 124; refine (LK _).mono ?_; rintro e w' ⟨rfl, hw'⟩; replace hw' := hw'.symm; subst hw')
                  go_roundw
                  · exact ⟨k + 1, by simp, by omega, by first | rfl | trivial, hn⟩
                  · simp [intOf]; omega
            · rw [hlo] at LK
              have hn := hnext.out (by simp [signB, hlo])
              clear hnext hbad hcn hlo
              go_wp2_with (go_at_call 124; refine (LK _).mono ?_; rintro e w' ⟨rfl, hw'⟩; replace hw' := hw'.symm; subst hw')
              go_roundw
              · exact ⟨k + 1, by simp, by omega, by first | rfl | trivial, hn⟩
              · simp [intOf]; omega
          · obtain rfl : k = l.length := by omega
            have hr := hend.out (by simpa using hh.out)
            clear hend hh
            go_wp2_with fail
            refine NM.mono ?_
            rintro e w2 ⟨hNP, hw2⟩
            subst hw2
            rcases npost_namedN hNP with ⟨q, hq, h1, h2, rfl⟩ | ⟨hq, rfl⟩
            · rw [hq] at hr
              clear hNP hq
              go_wp2_with fail
              go_ret
              exact ⟨by rw [hr]; rfl, rfl⟩
            · rw [hq] at hr
              clear hNP hq
              go_wp2_with fail
              go_ret
              exact ⟨by rw [hr]; rfl, rfl⟩

def tpartI (h : List UInt8) : Int := match tpart h with
  | none => -1
  | some k => k
set_option maxRecDepth 100000 in
set_option maxHeartbeats 2000000 in
theorem targetPart_any (l : List UInt8) (w : World) (hw : Nms w) : Calls Tryz.prog 102 #[.string ⟨l.toArray⟩] w fun e w' => e = .returned (.int .i64 (tpartI l)) ∧ Keeps (fun _ => False) w w' := by
  have NM := named_any l w hw
  go_enter Tryz.func102, Tryz.ntmps102
  go_wp2_with fail
  refine NM.mono ?_
  rintro e w1 ⟨hNP, hw1⟩
  subst hw1
  rcases npost_namedN hNP with ⟨q, hq, h1, h2, rfl⟩ | ⟨hq, rfl⟩
  · have I := info_yes (q : Int) (by omega) (by omega)
    have hr := (regsN_le (op := (q : Int)) (by omega) (by omega)).1
    have ht : Hid (tpartI l = if tgtB q then ((regsN q + 1 : Nat) : Int) else -1) := by
      unfold Hid tpartI tpart
      rw [hq]
      dsimp only
      cases tgtB q <;> rfl
    clear hNP hq NM
    generalize regsN (q : Int) = r at *
    generalize numB (q : Int) = nb at *
    generalize tgtB (q : Int) = tb at *
    generalize outB (q : Int) = ob at *
    generalize insB (q : Int) = ib at *
    go_wp2_with fail
    refine (I _).mono ?_
    rintro e w2 ⟨rfl, k2⟩
    have k3 := k2.alloc (.cells #[.int .i64 r, .bool nb, .bool tb, .bool ob, .bool ib] 63)
    clear I
    cases tb
    · go_wp2_with fail
      go_ret
      exact ⟨by rw [ht.out]; rfl, k3⟩
    · go_wp2_with fail
      go_ret
      exact ⟨by rw [ht.out]; simp, k3⟩
  · have I := info_no (0 : Int) (by omega)
    have ht : Hid (tpartI l = -1) := by
      unfold Hid tpartI tpart
      rw [hq]
    clear hNP hq NM
    go_wp2_with fail
    refine (I _).mono ?_
    rintro e w2 ⟨rfl, k2⟩
    have k3 := k2.alloc (.cells #[.int .i64 0, .bool false, .bool false, .bool false, .bool false] 63)
    clear I
    go_wp2_with fail
    go_ret
    exact ⟨by rw [ht.out]; rfl, k3⟩
end Go.Proofs.YtkkmkfldldglgaaGreatDoor
