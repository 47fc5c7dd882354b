
/- Walk of the document's parts (package parleyref09). No statement of the seat is proved here. -/
import Derived.Test.YtkkmkfldldglgaaGreatDoorAwM
import Derived.Test.YtkkmkfldldglgaaGreatDoorAsL
import Derived.Test.YtkkmkfldldglgaaGreatDoorAuA
namespace Go.Proofs.YtkkmkfldldglgaaGreatDoor
open Go.RowKit Go.Shelf

/-- A row of texts of the call's own. -/
structure Strs (w : World) (base : Nat) (v : Value) (L : List (List UInt8)) : Prop where
  own : w.ownsRow base 9 1 v L.length (L.map keyV)
  base : base ≤ w.heap.size
theorem Strs.nil (w : World) : Strs w w.heap.size (.slice none 0 0) [] := ⟨⟨rfl, .inl ⟨rfl, rfl⟩⟩, Nat.le_refl _⟩
theorem Strs.keeps {w w' : World} {base : Nat} {v : Value} {L : List (List UInt8)} {S : Nat → Prop} (h : Strs w base v L) (k : Keeps S w w') (hs : ∀ g, v.ownBlock = some g → ¬ S g) : Strs w' base v L :=
  ⟨own_keeps h.own k hs, Nat.le_trans h.base k.size⟩
theorem Strs.push {w : World} {base : Nat} {v : Value} {L : List (List UInt8)} (h : Strs w base v L) (x : List UInt8) (hb : L.length + 1 ≤ 1048578) :
    ∃ v' w', (Builtin.append_ #[76, 76] 76 #[v, .slice (some ⟨w.heap.size, 0, none⟩) 1 1]).run Tryz.prog (w.alloc (.cells #[.string ⟨x.toArray⟩] 9)) = .ok v' w' ∧ Strs w' base v' (L ++ [x]) ∧ Grew w w' v v' := by
  obtain ⟨v', w', h1, h2, h3⟩ := own_push1 (P := Tryz.prog) w base 76 76 9 (.string ByteArray.empty) 1 16 Tryz.underlying76 info_str rfl (by decide) v L.length _ h.own [.string ⟨x.toArray⟩] rfl (by simp [Value.oneCell']) (by omega) (by decide) h.base
  exact ⟨v', w', h1, ⟨by simpa [keyV] using h2, Nat.le_trans h.base h3.keeps.size⟩, h3⟩
theorem Strs.kept {w wr w' : World} {u u' : Value} {X : List (List UInt8)} (h : Grew wr w' u u') (k : Keeps (fun _ => False) w wr) (hb : Strs wr w.heap.size u X) : Keeps (fun _ => False) w w' :=
  ⟨h.keeps.os.trans k.os, h.keeps.tape.trans k.tape, h.keeps.output.trans k.output, Nat.le_trans k.size h.keeps.size, fun g hg hs => (h.keeps.block g (Nat.lt_of_lt_of_le hg k.size) fun e => by
    have := (own_block hb.own e).2; omega).trans (k.block g hg hs)⟩
theorem Strs.shape {w : World} {base : Nat} {v : Value} {L : List (List UInt8)} (h : Strs w base v L) : ∃ a cap, v = .slice a L.length cap := by
  rcases h.own.2 with ⟨rfl, h2⟩ | ⟨g, cap, cur, rfl, h1, h2, h3, h4, h5, h6⟩
  · exact ⟨none, 0, by rw [h2]⟩
  · exact ⟨_, cap, rfl⟩
theorem Strs.form {w : World} {base : Nat} {v : Value} {L : List (List UInt8)} (h : Strs w base v L) (hne : L ≠ []) : ∃ g cap, v = .slice (some ⟨g, 0, none⟩) L.length cap ∧ L.length ≤ cap ∧ g < w.heap.size ∧ base ≤ g ∧ ∀ k (hk : k < L.length), w.cell? ⟨g, k, none⟩ = some (.string ⟨(L[k]).toArray⟩) := by
  rcases h.own.2 with ⟨rfl, h2⟩ | ⟨g, cap, cur, rfl, h1, h2, h3, h4, h5, h6⟩
  · exact absurd (List.length_eq_zero_iff.1 h2) hne
  · refine ⟨g, cap, rfl, h3, lt_of_block h2, h1, fun k hk => ?_⟩
    rw [cell_of_block h2]
    have : (cur.toList.take (L.length * 1))[k]? = some (keyV (L[k])) := by rw [h6]; simp [hk]
    rw [List.getElem?_take_of_lt (by omega)] at this
    simpa [keyV] using this

theorem bparts_len : ∀ (l word : List UInt8), (bparts word l).length ≤ l.length + 1
  | [], word => by unfold bparts; split <;> simp
  | c :: t, word => by
    unfold bparts
    have h1 := bparts_len t []
    have h2 := bparts_len t (word ++ [c])
    split
    · split
      · simp; omega
      · simp; omega
    · simp; omega
set_option maxRecDepth 100000 in
set_option maxHeartbeats 4000000 in
theorem rparts_any (l : List UInt8) (hl : l.length ≤ 1048576) (w : World) : Calls Tryz.prog 38 #[.string ⟨l.toArray⟩] w fun e w' => ∃ v, e = .returned v ∧ Strs w' w.heap.size v (bparts [] l) ∧ Keeps (fun _ => False) w w' := by
  have hsz := size_of l
  go_enter Tryz.func38, Tryz.ntmps38
  go_wp2_with fail
  go_loopw [3, 4, 5] (fun u v1 v2 wr => ∃ (vo : Value) (i : Nat) (done : List (List UInt8)) (wd : List UInt8), vo = u ∧ v1 = .string ⟨wd.toArray⟩ ∧ v2 = .int .i64 i ∧ i ≤ l.length ∧ wd.length ≤ i ∧ Hid (Strs wr w.heap.size vo done ∧ Keeps (fun _ => False) w wr ∧ done.length ≤ i ∧ bparts [] l = done ++ bparts wd (l.drop i))) (fun _ _ v _ => l.length - (intOf v).toNat)
  case atStart => exact ⟨_, 0, [], [], rfl, rfl, rfl, Nat.zero_le _, by simp, ⟨Strs.nil w, Keeps.refl _ _, by simp, by simp⟩⟩
  case round =>
    obtain ⟨vo, i, done, wd, rfl, rfl, rfl, hil, hwl, hh⟩ := hrel
    by_cases hlt : i < l.length
    · have hli : (i : Int) < l.length := by omega
      have hs : i < (⟨l.toArray⟩ : ByteArray).size := by rw [hsz]; exact hlt
      have hat : ((⟨l.toArray⟩ : ByteArray)[i]'hs).toNat = (l[i]).toNat := rfl
      have HD : Hid (bparts wd (l.drop i) = if blk (l[i]) then (if wd = [] then bparts [] (l.drop (i + 1)) else wd :: bparts [] (l.drop (i + 1))) else bparts (wd ++ [l[i]]) (l.drop (i + 1))) := by
        unfold Hid
        rw [List.drop_eq_getElem_cons hlt, bparts]
      have hcut : (⟨l.toArray⟩ : ByteArray).extract i (i + 1) = ⟨[l[i]].toArray⟩ := by
        rw [cut_str]
        congr 2
        rw [show i + 1 - i = 1 by omega, List.drop_eq_getElem_cons hlt]
        rfl
      by_cases hb : blk (l[i]) = true
      · rw [if_pos hb] at HD
        have hx : (l[i]).toNat = 32 ∨ (l[i]).toNat = 9 := by
          simp only [blk, Bool.or_eq_true, beq_iff_eq] at hb
          rcases hb with h | h <;> rw [h] <;> simp
        by_cases hwd : wd = []
        · subst hwd
          rw [if_pos rfl] at HD
          have fin : Hid (Strs wr w.heap.size vo done ∧ Keeps (fun _ => False) w wr ∧ done.length ≤ i + 1 ∧ bparts [] l = done ++ bparts [] (l.drop (i + 1))) := by
            obtain ⟨q1, q2, q3, q4⟩ := hh.out
            exact ⟨q1, q2, by omega, by rw [q4, HD.out]⟩
          obtain ⟨ua, uc, rfl⟩ := hh.out.1.shape
          clear hh HD hb
          rcases hx with hx | hx
          all_goals
            rw [hx] at hat
            go_wp2_with fail
            go_roundw
            · exact ⟨_, i + 1, done, [], rfl, by first | rfl | simp, by simp, by omega, by simp, fin⟩
            · simp [intOf]; omega
        · rw [if_neg hwd] at HD
          have hemp : (ByteArray.toList ⟨wd.toArray⟩ == []) = false := by simpa using hwd
          have hemp' : (ByteArray.toList ⟨wd.toArray⟩ != []) = true := by simpa using hwd
          have hem : wd.isEmpty = false := by cases wd; exact absurd rfl hwd; rfl
          obtain ⟨q1, q2, q3, q4⟩ := hh.out
          obtain ⟨v1, w1, r1, r2, r3⟩ := q1.push wd (by omega)
          have HR : Hid (_ = _) := r1
          have KK := Strs.kept r3 q2 q1
          have fin : Hid (Strs w1 w.heap.size v1 (done ++ [wd]) ∧ Keeps (fun _ => False) w w1 ∧ (done ++ [wd]).length ≤ i + 1 ∧ bparts [] l = (done ++ [wd]) ++ bparts [] (l.drop (i + 1))) := ⟨r2, KK, by simp; omega, by rw [q4, HD.out]; simp⟩
          obtain ⟨ua, uc, rfl⟩ := q1.shape
          clear hh HD hb q1 q2 q3 q4 r1 r2 r3 KK
          rcases hx with hx | hx
          all_goals
            rw [hx] at hat
            go_wp2_with (at_builtin; refine wpList_append_run rfl _ _ 76 rfl rfl rfl HR.out ?_)
            go_roundw
            · exact ⟨_, i + 1, done ++ [wd], [], rfl, by first | rfl | simp, by simp, by omega, by simp, fin⟩
            · simp [intOf]; omega
      · rw [if_neg hb] at HD
        have hx : (l[i]).toNat ≠ 32 ∧ (l[i]).toNat ≠ 9 := by
          simp only [blk, Bool.or_eq_true, beq_iff_eq, not_or] at hb
          exact ⟨fun h => hb.1 (UInt8.toNat.inj (by rw [h]; rfl)), fun h => hb.2 (UInt8.toNat.inj (by rw [h]; rfl))⟩
        obtain ⟨Y1, s1, e1, l1⟩ := cat_ex wd [l[i]]
        simp only [List.length_cons, List.length_nil] at l1
        have t1 : ¬ 9223372036854775807 < wd.length + 1 := by omega
        have fin : Hid (Strs wr w.heap.size vo done ∧ Keeps (fun _ => False) w wr ∧ done.length ≤ i + 1 ∧ bparts [] l = done ++ bparts Y1 (l.drop (i + 1))) := by
          obtain ⟨q1, q2, q3, q4⟩ := hh.out
          exact ⟨q1, q2, by omega, by rw [q4, HD.out, e1.out]⟩
        obtain ⟨ua, uc, rfl⟩ := hh.out.1.shape
        generalize l[i] = lc at *
        generalize lc.toNat = x at *
        have b1 : ((x : Int) == 32) = false := by simp; omega
        have b2 : ((x : Int) == 9) = false := by simp; omega
        clear hh HD hb
        go_wp2_with fail
        go_roundw
        · exact ⟨_, i + 1, done, Y1, rfl, by first | rfl | simp, by simp, by omega, by omega, fin⟩
        · simp [intOf]; omega
    · have hli : ¬ (i : Int) < l.length := by omega
      obtain rfl : i = l.length := by omega
      have HD : Hid (bparts wd (l.drop l.length) = if wd = [] then [] else [wd]) := by
        unfold Hid
        rw [List.drop_length, bparts]
      obtain ⟨q1, q2, q3, q4⟩ := hh.out
      by_cases hwd : wd = []
      · subst hwd
        rw [if_pos rfl] at HD
        have fin : Hid (Strs wr w.heap.size vo (bparts [] l) ∧ Keeps (fun _ => False) w wr) := ⟨by rw [q4, HD.out]; simpa using q1, q2⟩
        obtain ⟨ua, uc, rfl⟩ := q1.shape
        clear hh HD q1 q2 q3 q4
        go_wp2_with fail
        go_ret
        exact ⟨_, rfl, fin.out⟩
      · rw [if_neg hwd] at HD
        have hemp : (ByteArray.toList ⟨wd.toArray⟩ == []) = false := by simpa using hwd
        have hemp' : (ByteArray.toList ⟨wd.toArray⟩ != []) = true := by simpa using hwd
        have hem : wd.isEmpty = false := by cases wd; exact absurd rfl hwd; rfl
        obtain ⟨v1, w1, r1, r2, r3⟩ := q1.push wd (by omega)
        have HR : Hid (_ = _) := r1
        have KK := Strs.kept r3 q2 q1
        have fin : Hid (Strs w1 w.heap.size v1 (bparts [] l) ∧ Keeps (fun _ => False) w w1) := ⟨by rw [q4, HD.out]; exact r2, KK⟩
        obtain ⟨ua, uc, rfl⟩ := q1.shape
        clear hh HD q1 q2 q3 q4 r1 r2 r3 KK
        go_wp2_with (at_builtin; refine wpList_append_run rfl _ _ 76 rfl rfl rfl HR.out ?_)
        go_ret
        exact ⟨_, rfl, fin.out⟩
end Go.Proofs.YtkkmkfldldglgaaGreatDoor
