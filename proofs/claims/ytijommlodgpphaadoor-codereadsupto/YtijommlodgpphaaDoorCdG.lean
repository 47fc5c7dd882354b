
/- Walks of Named, decimal and built (package code). No statement of the seat is proved here. -/
import Derived.Test.YtijommlodgpphaaDoorCdF
import Derived.Laws.RangeAny
namespace Go.Proofs.YtijommlodgpphaaDoor
open Go.RowKit Go.Shelf

/-- What Named answers. -/
def NPost (l : List UInt8) (e : Ending) : Prop := (∃ k : Nat, 1 ≤ k ∧ k ≤ 17 ∧ (nms[k]?).getD [] = l ∧ e = .returned (.tuple #[.int .i64 k, .bool true])) ∨ ((∀ k : Nat, 1 ≤ k → k ≤ 17 → (nms[k]?).getD [] ≠ l) ∧ e = .returned (.tuple #[.int .i64 0, .bool false]))

set_option maxRecDepth 100000 in
set_option maxHeartbeats 2000000 in
theorem named_any (l : List UInt8) (w : World) (hw : Nms w) : Calls Tryd.prog 30 #[.string ⟨l.toArray⟩] w fun e w' => NPost l e ∧ w' = w := by
  go_enter Tryd.func30, Tryd.ntmps30
  go_wp2_with fail
  go_loopw [4] (fun v wr => ∃ k : Nat, v = .int .i64 k ∧ 1 ≤ k ∧ k ≤ 18 ∧ Hid (∀ j : Nat, 1 ≤ j → j < k → (nms[j]?).getD [] ≠ l) ∧ wr = w) (fun v _ => 18 - (intOf v).toNat)
  case atStart => exact ⟨1, rfl, Nat.le_refl _, by omega, fun j h1 h2 => by omega, rfl⟩
  case round =>
    obtain ⟨k, rfl, hk1, hk2, hh, rfl⟩ := hrel
    by_cases hlt : k ≤ 17
    · have hc := hw k (by omega)
      have hki : (k : Int) < 18 := by omega
      have K := known_yes (k : Int) (by omega) (by omega)
      unfold nm at hc
      by_cases he : (nms[k]?).getD [] = l
      · have hb : (ByteArray.toList ⟨((nms[k]?).getD []).toArray⟩ == l) = true := by rw [he]; simp
        generalize ((nms[k]?).getD []).toArray = q at *
        clear hw
        go_wp2_with (go_at_call 19; refine (K _).mono ?_; rintro e w' ⟨rfl, hw'⟩; replace hw' := hw'.symm; subst hw')
        go_ret2
        exact ⟨.inl ⟨k, hk1, hlt, he, rfl⟩, rfl⟩
      · have hb : (ByteArray.toList ⟨((nms[k]?).getD []).toArray⟩ == l) = false := by simpa using he
        generalize ((nms[k]?).getD []).toArray = q at *
        go_wp2_with (go_at_call 19; refine (K _).mono ?_; rintro e w' ⟨rfl, hw'⟩; replace hw' := hw'.symm; subst hw')
        go_roundw
        · refine ⟨k + 1, by simp, by omega, by omega, fun j h1 h2 => ?_, by first | rfl | trivial⟩
          by_cases hj : j = k
          · subst hj; exact he
          · exact hh.out j h1 (by omega)
        · simp [intOf]; omega
    · obtain rfl : k = 18 := by omega
      have K := known_no (18 : Int) (by omega)
      go_wp2_with (go_at_call 19; refine (K _).mono ?_; rintro e w' ⟨rfl, hw'⟩; replace hw' := hw'.symm; subst hw')
      go_ret2
      exact ⟨.inr ⟨fun j h1 h2 => hh.out j h1 (by omega), rfl⟩, rfl⟩

/-- A number in decimal digits, read from the left. -/
def decGo (at0 : Bool) (n : Nat) : List UInt8 → Option Nat
  | [] => some n
  | c :: t => if c.toNat < 48 ∨ 57 < c.toNat ∨ (at0 = false ∧ n = 0) then none else if (18446744073709551615 - (c.toNat - 48)) / 10 < n then none else decGo false (n * 10 + (c.toNat - 48)) t
def decL (l : List UInt8) : Option Nat := if l = [] then none else decGo true 0 l
/-- What decimal answers. -/
def DPost (l : List UInt8) (e : Ending) : Prop := e = .returned (.tuple #[.int .u64 (((decL l).getD 0 : Nat) : Int), .bool (decL l).isSome])

theorem at_list (l : List UInt8) (k : Nat) (h : k < l.length) : (⟨l.toArray⟩ : ByteArray)[k]'(by simpa [ByteArray.size] using h) = l[k] := rfl

set_option maxRecDepth 100000 in
set_option maxHeartbeats 2000000 in
theorem decimal_any (l : List UInt8) (hl : l.length ≤ 140737488355328) (w : World) : Calls Tryd.prog 31 #[.string ⟨l.toArray⟩] w fun e w' => DPost l e ∧ Keeps (fun _ => False) w w' := by
  have ki : ∀ p, Keeps (fun _ => False) w (w.iter ⟨l.toArray⟩ p) := fun p => (Keeps.refl _ w).alloc _
  go_enter Tryd.func31, Tryd.ntmps31
  go_wp2_with fail
  go_loopw [4] (fun v wr => ∃ (x p : Nat), v = .int .u64 x ∧ x < 18446744073709551616 ∧ wr = w.iter ⟨l.toArray⟩ p ∧ p ≤ l.length ∧ Hid (decGo (p == 0) x (l.drop p) = decGo true 0 l)) (fun _ wr => l.length - wr.iterPos w.heap.size)
  case atStart => exact ⟨0, 0, rfl, by omega, rfl, Nat.zero_le _, by exact rfl⟩
  case round =>
    obtain ⟨x, p, rfl, hx, rfl, hp, hh⟩ := hrel
    by_cases hlt : p < l.length
    · have hs : p < (⟨l.toArray⟩ : ByteArray).size := by simpa [ByteArray.size] using hlt
      have hd : l.drop p = l[p] :: l.drop (p + 1) := List.drop_eq_getElem_cons hlt
      have hne : l ≠ [] := by intro h; subst h; simp at hlt
      by_cases hhi : 128 ≤ (l[p]).toNat
      · have hn := fun ty => run_next_any (P := Tryd.prog) w ⟨l.toArray⟩ p ty hs
        have hr := (decode_high ⟨l.toArray⟩ p hs (by rw [at_list l p hlt]; exact hhi)).1
        have hR : DPost l (.returned (.tuple #[.int .u64 0, .bool false])) := by
          have h := hh.out
          rw [hd, decGo, if_pos (by omega)] at h
          unfold DPost decL
          rw [if_neg hne, ← h]; rfl
        generalize (Utf8.decode ⟨l.toArray⟩ p).1 = r at *
        generalize (Utf8.decode ⟨l.toArray⟩ p).2 = z at *
        have hr1 : ¬ (r : Int) < 48 := by omega
        have hr2 : (57 : Int) < r := by omega
        clear hr hh
        go_wp2_with fail
        go_ret2
        exact ⟨hR, ki _⟩
      · have hn := fun ty => run_next_ascii (P := Tryd.prog) w ⟨l.toArray⟩ p ty hs (by rw [at_list l p hlt]; omega)
        rw [at_list l p hlt] at hn
        have h0 := hh.out
        rw [hd, decGo] at h0
        generalize hcc : (l[p]).toNat = c at *
        have hR : (c < 48 ∨ 57 < c ∨ (p == 0) = false ∧ x = 0) → DPost l (.returned (.tuple #[.int .u64 0, .bool false])) := fun hc => by
          rw [if_pos hc] at h0
          unfold DPost decL
          rw [if_neg hne, ← h0]; rfl
        have hR2 : ¬ (c < 48 ∨ 57 < c ∨ (p == 0) = false ∧ x = 0) → (18446744073709551615 - (c - 48)) / 10 < x → DPost l (.returned (.tuple #[.int .u64 0, .bool false])) := fun hc h => by
          rw [if_neg hc, if_pos h] at h0
          unfold DPost decL
          rw [if_neg hne, ← h0]; rfl
        have hR3 : ¬ (c < 48 ∨ 57 < c ∨ (p == 0) = false ∧ x = 0) → ¬ (18446744073709551615 - (c - 48)) / 10 < x → Hid (decGo false (x * 10 + (c - 48)) (l.drop (p + 1)) = decGo true 0 l) := fun hc h => by
          rw [if_neg hc, if_neg h] at h0
          exact h0
        clear h0 hh hd hhi
        by_cases hc1 : c < 48
        · have g1 : (c : Int) < 48 := by omega
          go_wp2_with fail
          go_ret2
          exact ⟨hR (by omega), ki _⟩
        · by_cases hc2 : 57 < c
          · have g1 : ¬ (c : Int) < 48 := by omega
            have g2 : (57 : Int) < c := by omega
            go_wp2_with fail
            go_ret2
            exact ⟨hR (by omega), ki _⟩
          · have H1 : Hid (48 ≤ c ∧ c ≤ 57) := ⟨by omega, by omega⟩
            obtain ⟨ci, hci⟩ : ∃ ci : Int, ci = c := ⟨_, rfl⟩
            have g1 : ¬ ci < 48 := by omega
            have g2 : ¬ 57 < ci := by omega
            rw [← hci] at hn
            have hd0 : 0 ≤ ci - 48 := by omega
            have hd9 : ci - 48 ≤ 9 := by omega
            have hdc : Hid (ci - 48 = ((c - 48 : Nat) : Int)) := by show ci - 48 = _; omega
            clear hc1 hc2 hci
            by_cases hz : 0 < p ∧ x = 0
            · obtain ⟨hp0, rfl⟩ := hz
              have g3 : (0 : Int) < p := by omega
              go_wp2_with fail
              go_ret2
              exact ⟨hR (.inr (.inr ⟨by simp; omega, by first | rfl | trivial⟩)), ki _⟩
            · have hnb : Hid (¬ (c < 48 ∨ 57 < c ∨ (p == 0) = false ∧ x = 0)) := by
                intro h
                have := H1.out
                rcases h with h | h | ⟨h, h'⟩
                · omega
                · omega
                · simp at h; omega
              obtain ⟨X, hX⟩ : ∃ X : Int, X = x := ⟨_, rfl⟩
              have hXx : Hid (X = x) := hX
              have hX0 : 0 ≤ X := by omega
              have hX1 : X < 18446744073709551616 := by omega
              by_cases hbig : (18446744073709551615 - (ci - 48)) / 10 < X
              · have hR' := hR2 hnb (by have := hdc.out; omega)
                rcases (by omega : p = 0 ∨ (0 < p ∧ x ≠ 0)) with rfl | ⟨hp0, hx0⟩
                · rw [← hX]
                  clear hX hR hR2 hR3
                  go_wp2_with fail
                  go_ret2
                  exact ⟨hR', ki _⟩
                · have g3 : (0 : Int) < p := by omega
                  have g4 : X ≠ 0 := by omega
                  rw [← hX]
                  clear hX hR hR2 hR3
                  go_wp2_with fail
                  go_ret2
                  exact ⟨hR', ki _⟩
              · have hR' := hR3 hnb (by have := hdc.out; omega)
                have b1 : X * 10 < 18446744073709551616 := by omega
                have b2 : X * 10 + (ci - 48) < 18446744073709551616 := by omega
                have e2 : Hid (X * 10 + (ci - 48) = ((x * 10 + (c - 48) : Nat) : Int)) := by show _ = _; have := hdc.out; omega
                have e3 : Hid (x * 10 + (c - 48) < 18446744073709551616) := by show _ < _; have := hdc.out; omega
                rcases (by omega : p = 0 ∨ (0 < p ∧ x ≠ 0)) with rfl | ⟨hp0, hx0⟩
                · rw [← hX]
                  clear hX hR hR2 hR3
                  go_wp2_with fail
                  go_roundw
                  · exact ⟨x * 10 + (c - 48), 0 + 1, by rw [e2.out], e3.out, rfl, by omega, hR'⟩
                  · simp; omega
                · have g3 : (0 : Int) < p := by omega
                  have g4 : X ≠ 0 := by omega
                  rw [← hX]
                  clear hX hR hR2 hR3
                  go_wp2_with fail
                  go_roundw
                  · exact ⟨x * 10 + (c - 48), p + 1, by rw [e2.out], e3.out, rfl, by omega, by rw [show (p + 1 == 0) = false by simp]; exact hR'⟩
                  · simp; omega
    · have hs : ¬ p < (⟨l.toArray⟩ : ByteArray).size := by simpa [ByteArray.size] using hlt
      have hn := fun ty => run_next_end (P := Tryd.prog) w ⟨l.toArray⟩ p ty hs
      have h0 := hh.out
      rw [List.drop_eq_nil_of_le (by omega), decGo] at h0
      have hR : DPost l (.returned (.tuple #[.int .u64 x, .bool (!(l == []))])) := by
        unfold DPost decL
        by_cases hne : l = []
        · subst hne
          rw [if_pos rfl]
          obtain rfl : p = 0 := by simpa using hp
          simp [decGo] at h0
          subst h0; rfl
        · rw [if_neg hne, ← h0]
          simp [hne]
      clear hh h0
      go_wp2_with fail
      go_ret2
      exact ⟨by first | exact hR | simpa using hR, ki _⟩
end Go.Proofs.YtijommlodgpphaaDoor
