/-
  No statement of the seat is proved here. (Several texts in one: CdF, CdG, CdH.)
-/
import Derived.Test.YtppejcfghlpbjaaGreatDoorM01CdC
import Derived.Laws.RangeAny

/- Walks of Bytes (package code). No statement of the seat is proved here. -/
namespace Go.Proofs.YtppejcfghlpbjaaGreatDoor
open Go.RowKit Go.Shelf

/-- The numbers of an instruction are numbers of their kinds. -/
def I5.wf (i : I5) : Prop := (-9223372036854775808 ≤ i.op ∧ i.op < 9223372036854775808) ∧ (-9223372036854775808 ≤ i.a ∧ i.a < 9223372036854775808) ∧ (-9223372036854775808 ≤ i.b ∧ i.b < 9223372036854775808) ∧ (-9223372036854775808 ≤ i.c ∧ i.c < 9223372036854775808) ∧ 0 ≤ i.n ∧ i.n < 18446744073709551616

/-- Instructions where they lie. -/
structure InsAt (w : World) (v : Value) (L : List I5) : Prop where
  form : ∃ a cap, v = .slice a L.length cap ∧ ∀ k (hk : k < L.length), ∃ g off, a = some ⟨g, off, none⟩ ∧ w.cell? ⟨g, off + k * 5, none⟩ = some (.int .i64 (L[k]'hk).op) ∧ w.cell? ⟨g, off + k * 5 + 1, none⟩ = some (.int .i64 (L[k]'hk).a) ∧ w.cell? ⟨g, off + k * 5 + 2, none⟩ = some (.int .i64 (L[k]'hk).b) ∧ w.cell? ⟨g, off + k * 5 + 3, none⟩ = some (.int .i64 (L[k]'hk).c) ∧ w.cell? ⟨g, off + k * 5 + 4, none⟩ = some (.int .u64 (L[k]'hk).n)
  wf : ∀ i ∈ L, i.wf
  big : L.length * 40 ≤ 140737488355328

theorem InsAt.keeps {w w' : World} {v : Value} {L : List I5} (h : InsAt w v L) (k : Keeps (fun _ => False) w w') : InsAt w' v L := by
  obtain ⟨⟨a, cap, rfl, hc⟩, h2, h3⟩ := h
  refine ⟨⟨a, cap, rfl, fun j hj => ?_⟩, h2, h3⟩
  obtain ⟨g, off, rfl, c0, c1, c2, c3, c4⟩ := hc j hj
  have hg : g < w.heap.size := World.block_lt_of_cell? _ _ c0
  have hb := k.block g hg (fun f => f)
  have e : ∀ x, w'.cell? ⟨g, x, none⟩ = w.cell? ⟨g, x, none⟩ := fun x => by simp [World.cell?, hb]
  exact ⟨g, off, rfl, by rw [e, c0], by rw [e, c1], by rw [e, c2], by rw [e, c3], by rw [e, c4]⟩

def bytesL (i : I5) : List UInt8 := UInt8.ofNat i.op.toNat :: (numL i).flatMap fun n => sevL n.toNat
theorem flat10 : ∀ l : List Int, (∀ x ∈ l, 0 ≤ x ∧ x < 18446744073709551616) → (l.flatMap fun n => sevL n.toNat).length ≤ 10 * l.length
  | [], _ => by simp
  | x :: l, h => by
    have h1 := flat10 l fun y hy => h y (by simp [hy])
    have hx := h x (by simp)
    have h2 := sevL_le10 (n := x.toNat) (by omega)
    simp only [List.flatMap_cons, List.length_append, List.length_cons]
    omega

/-- What Bytes answers. -/
def BPost (L : List I5) (base : Nat) (e : Ending) (w' : World) : Prop := (L.all formedB = true → ∃ v', e = .returned (.tuple #[v', .int .i64 0]) ∧ Bts w' base v' (L.flatMap bytesL)) ∧ (L.all formedB = false → e = .returned (.tuple #[.slice none 0 0, .int .i64 180]))

end Go.Proofs.YtppejcfghlpbjaaGreatDoor


/- Walks of Named, decimal and built (package code). No statement of the seat is proved here. -/
namespace Go.Proofs.YtppejcfghlpbjaaGreatDoor
open Go.RowKit Go.Shelf

/-- What Named answers. -/
def NPost (l : List UInt8) (e : Ending) : Prop := (∃ k : Nat, 1 ≤ k ∧ k ≤ 17 ∧ (nms[k]?).getD [] = l ∧ e = .returned (.tuple #[.int .i64 k, .bool true])) ∨ ((∀ k : Nat, 1 ≤ k → k ≤ 17 → (nms[k]?).getD [] ≠ l) ∧ e = .returned (.tuple #[.int .i64 0, .bool false]))

set_option maxRecDepth 100000 in
set_option maxHeartbeats 2000000 in
theorem named_any (l : List UInt8) (w : World) (hw : Nms w) : Calls Tryz.prog 92 #[.string ⟨l.toArray⟩] w fun e w' => NPost l e ∧ w' = w := by
  go_enter Tryz.func92, Tryz.ntmps92
  go_wp2_with fail
  go_loopw [4] (fun v wr => ∃ k : Nat, v = .int .i64 k ∧ 1 ≤ k ∧ k ≤ 18 ∧ Hid (∀ j : Nat, 1 ≤ j → j < k → (nms[j]?).getD [] ≠ l) ∧ wr = w) (fun v _ => 18 - (intOf v).toNat)
  case atStart => exact ⟨1, rfl, Nat.le_refl _, by omega, fun j h1 h2 => by omega, rfl⟩
  case round =>
    obtain ⟨k, rfl, hk1, hk2, hh, rfl⟩ := hrel
    by_cases hlt : k ≤ 17
    · have hc := hw k (by omega)
      have hki : (k : Int) < 18 := by omega
      have K := known_yes (k : Int) (by omega) (by omega)
      unfold nm at hc
      by_cases he : (nms[k]?).getD [] = l
      · have hb : (ByteArray.toList ⟨((nms[k]?).getD []).toArray⟩ == l) = true := by rw [he]; simp
        generalize ((nms[k]?).getD []).toArray = q at *
        clear hw
        go_wp2_with (go_at_call 75; refine (K _).mono ?_; rintro e w' ⟨rfl, hw'⟩; replace hw' := hw'.symm; subst hw')
        go_ret2
        exact ⟨.inl ⟨k, hk1, hlt, he, rfl⟩, rfl⟩
      · have hb : (ByteArray.toList ⟨((nms[k]?).getD []).toArray⟩ == l) = false := by simpa using he
        generalize ((nms[k]?).getD []).toArray = q at *
        go_wp2_with (go_at_call 75; refine (K _).mono ?_; rintro e w' ⟨rfl, hw'⟩; replace hw' := hw'.symm; subst hw')
        go_roundw
        · refine ⟨k + 1, by simp, by omega, by omega, fun j h1 h2 => ?_, by first | rfl | trivial⟩
          by_cases hj : j = k
          · subst hj; exact he
          · exact hh.out j h1 (by omega)
        · simp [intOf]; omega
    · obtain rfl : k = 18 := by omega
      have K := known_no (18 : Int) (by omega)
      go_wp2_with (go_at_call 75; refine (K _).mono ?_; rintro e w' ⟨rfl, hw'⟩; replace hw' := hw'.symm; subst hw')
      go_ret2
      exact ⟨.inr ⟨fun j h1 h2 => hh.out j h1 (by omega), rfl⟩, rfl⟩

/-- A number in decimal digits, read from the left. -/
def decGo (at0 : Bool) (n : Nat) : List UInt8 → Option Nat
  | [] => some n
  | c :: t => if c.toNat < 48 ∨ 57 < c.toNat ∨ (at0 = false ∧ n = 0) then none else if (18446744073709551615 - (c.toNat - 48)) / 10 < n then none else decGo false (n * 10 + (c.toNat - 48)) t
def decL (l : List UInt8) : Option Nat := if l = [] then none else decGo true 0 l
/-- What decimal answers. -/
def DPost (l : List UInt8) (e : Ending) : Prop := e = .returned (.tuple #[.int .u64 (((decL l).getD 0 : Nat) : Int), .bool (decL l).isSome])

theorem at_list (l : List UInt8) (k : Nat) (h : k < l.length) : (⟨l.toArray⟩ : ByteArray)[k]'(by simpa [ByteArray.size] using h) = l[k] := rfl

set_option maxRecDepth 100000 in
set_option maxHeartbeats 2000000 in
theorem decimal_any (l : List UInt8) (hl : l.length ≤ 140737488355328) (w : World) : Calls Tryz.prog 93 #[.string ⟨l.toArray⟩] w fun e w' => DPost l e ∧ Keeps (fun _ => False) w w' := by
  have ki : ∀ p, Keeps (fun _ => False) w (w.iter ⟨l.toArray⟩ p) := fun p => (Keeps.refl _ w).alloc _
  go_enter Tryz.func93, Tryz.ntmps93
  go_wp2_with fail
  go_loopw [4] (fun v wr => ∃ (x p : Nat), v = .int .u64 x ∧ x < 18446744073709551616 ∧ wr = w.iter ⟨l.toArray⟩ p ∧ p ≤ l.length ∧ Hid (decGo (p == 0) x (l.drop p) = decGo true 0 l)) (fun _ wr => l.length - wr.iterPos w.heap.size)
  case atStart => exact ⟨0, 0, rfl, by omega, rfl, Nat.zero_le _, by exact rfl⟩
  case round =>
    obtain ⟨x, p, rfl, hx, rfl, hp, hh⟩ := hrel
    by_cases hlt : p < l.length
    · have hs : p < (⟨l.toArray⟩ : ByteArray).size := by simpa [ByteArray.size] using hlt
      have hd : l.drop p = l[p] :: l.drop (p + 1) := List.drop_eq_getElem_cons hlt
      have hne : l ≠ [] := by intro h; subst h; simp at hlt
      by_cases hhi : 128 ≤ (l[p]).toNat
      · have hn := fun ty => run_next_any (P := Tryz.prog) w ⟨l.toArray⟩ p ty hs
        have hr := (decode_high ⟨l.toArray⟩ p hs (by rw [at_list l p hlt]; exact hhi)).1
        have hR : DPost l (.returned (.tuple #[.int .u64 0, .bool false])) := by
          have h := hh.out
          rw [hd, decGo, if_pos (by omega)] at h
          unfold DPost decL
          rw [if_neg hne, ← h]; rfl
        generalize (Utf8.decode ⟨l.toArray⟩ p).1 = r at *
        generalize (Utf8.decode ⟨l.toArray⟩ p).2 = z at *
        have hr1 : ¬ (r : Int) < 48 := by omega
        have hr2 : (57 : Int) < r := by omega
        clear hr hh
        go_wp2_with fail
        go_ret2
        exact ⟨hR, ki _⟩
      · have hn := fun ty => run_next_ascii (P := Tryz.prog) w ⟨l.toArray⟩ p ty hs (by rw [at_list l p hlt]; omega)
        rw [at_list l p hlt] at hn
        have h0 := hh.out
        rw [hd, decGo] at h0
        generalize hcc : (l[p]).toNat = c at *
        have hR : (c < 48 ∨ 57 < c ∨ (p == 0) = false ∧ x = 0) → DPost l (.returned (.tuple #[.int .u64 0, .bool false])) := fun hc => by
          rw [if_pos hc] at h0
          unfold DPost decL
          rw [if_neg hne, ← h0]; rfl
        have hR2 : ¬ (c < 48 ∨ 57 < c ∨ (p == 0) = false ∧ x = 0) → (18446744073709551615 - (c - 48)) / 10 < x → DPost l (.returned (.tuple #[.int .u64 0, .bool false])) := fun hc h => by
          rw [if_neg hc, if_pos h] at h0
          unfold DPost decL
          rw [if_neg hne, ← h0]; rfl
        have hR3 : ¬ (c < 48 ∨ 57 < c ∨ (p == 0) = false ∧ x = 0) → ¬ (18446744073709551615 - (c - 48)) / 10 < x → Hid (decGo false (x * 10 + (c - 48)) (l.drop (p + 1)) = decGo true 0 l) := fun hc h => by
          rw [if_neg hc, if_neg h] at h0
          exact h0
        clear h0 hh hd hhi
        by_cases hc1 : c < 48
        · have g1 : (c : Int) < 48 := by omega
          go_wp2_with fail
          go_ret2
          exact ⟨hR (by omega), ki _⟩
        · by_cases hc2 : 57 < c
          · have g1 : ¬ (c : Int) < 48 := by omega
            have g2 : (57 : Int) < c := by omega
            go_wp2_with fail
            go_ret2
            exact ⟨hR (by omega), ki _⟩
          · have H1 : Hid (48 ≤ c ∧ c ≤ 57) := ⟨by omega, by omega⟩
            obtain ⟨ci, hci⟩ : ∃ ci : Int, ci = c := ⟨_, rfl⟩
            have g1 : ¬ ci < 48 := by omega
            have g2 : ¬ 57 < ci := by omega
            rw [← hci] at hn
            have hd0 : 0 ≤ ci - 48 := by omega
            have hd9 : ci - 48 ≤ 9 := by omega
            have hdc : Hid (ci - 48 = ((c - 48 : Nat) : Int)) := by show ci - 48 = _; omega
            clear hc1 hc2 hci
            by_cases hz : 0 < p ∧ x = 0
            · obtain ⟨hp0, rfl⟩ := hz
              have g3 : (0 : Int) < p := by omega
              go_wp2_with fail
              go_ret2
              exact ⟨hR (.inr (.inr ⟨by simp; omega, by first | rfl | trivial⟩)), ki _⟩
            · have hnb : Hid (¬ (c < 48 ∨ 57 < c ∨ (p == 0) = false ∧ x = 0)) := by
                intro h
                have := H1.out
                rcases h with h | h | ⟨h, h'⟩
                · omega
                · omega
                · simp at h; omega
              obtain ⟨X, hX⟩ : ∃ X : Int, X = x := ⟨_, rfl⟩
              have hXx : Hid (X = x) := hX
              have hX0 : 0 ≤ X := by omega
              have hX1 : X < 18446744073709551616 := by omega
              by_cases hbig : (18446744073709551615 - (ci - 48)) / 10 < X
              · have hR' := hR2 hnb (by have := hdc.out; omega)
                rcases (by omega : p = 0 ∨ (0 < p ∧ x ≠ 0)) with rfl | ⟨hp0, hx0⟩
                · rw [← hX]
                  clear hX hR hR2 hR3
                  go_wp2_with fail
                  go_ret2
                  exact ⟨hR', ki _⟩
                · have g3 : (0 : Int) < p := by omega
                  have g4 : X ≠ 0 := by omega
                  rw [← hX]
                  clear hX hR hR2 hR3
                  go_wp2_with fail
                  go_ret2
                  exact ⟨hR', ki _⟩
              · have hR' := hR3 hnb (by have := hdc.out; omega)
                have b1 : X * 10 < 18446744073709551616 := by omega
                have b2 : X * 10 + (ci - 48) < 18446744073709551616 := by omega
                have e2 : Hid (X * 10 + (ci - 48) = ((x * 10 + (c - 48) : Nat) : Int)) := by show _ = _; have := hdc.out; omega
                have e3 : Hid (x * 10 + (c - 48) < 18446744073709551616) := by show _ < _; have := hdc.out; omega
                rcases (by omega : p = 0 ∨ (0 < p ∧ x ≠ 0)) with rfl | ⟨hp0, hx0⟩
                · rw [← hX]
                  clear hX hR hR2 hR3
                  go_wp2_with fail
                  go_roundw
                  · exact ⟨x * 10 + (c - 48), 0 + 1, by rw [e2.out], e3.out, rfl, by omega, hR'⟩
                  · simp; omega
                · have g3 : (0 : Int) < p := by omega
                  have g4 : X ≠ 0 := by omega
                  rw [← hX]
                  clear hX hR hR2 hR3
                  go_wp2_with fail
                  go_roundw
                  · exact ⟨x * 10 + (c - 48), p + 1, by rw [e2.out], e3.out, rfl, by omega, by rw [show (p + 1 == 0) = false by simp]; exact hR'⟩
                  · simp; omega
    · have hs : ¬ p < (⟨l.toArray⟩ : ByteArray).size := by simpa [ByteArray.size] using hlt
      have hn := fun ty => run_next_end (P := Tryz.prog) w ⟨l.toArray⟩ p ty hs
      have h0 := hh.out
      rw [List.drop_eq_nil_of_le (by omega), decGo] at h0
      have hR : DPost l (.returned (.tuple #[.int .u64 x, .bool (!(l == []))])) := by
        unfold DPost decL
        by_cases hne : l = []
        · subst hne
          rw [if_pos rfl]
          obtain rfl : p = 0 := by simpa using hp
          simp [decGo] at h0
          subst h0; rfl
        · rw [if_neg hne, ← h0]
          simp [hne]
      clear hh h0
      go_wp2_with fail
      go_ret2
      exact ⟨by first | exact hR | simpa using hR, ki _⟩
end Go.Proofs.YtppejcfghlpbjaaGreatDoor


/- Walks of built (package code). No statement of the seat is proved here. -/
namespace Go.Proofs.YtppejcfghlpbjaaGreatDoor
open Go.RowKit Go.Shelf

/-- The instruction behind whose operation these numbers stand. -/
def insOf (op : Int) (N : List Int) : I5 := ⟨op, if 0 < regsN op then (N[0]?).getD 0 else 0, if 1 < regsN op then (N[1]?).getD 0 else 0, if 2 < regsN op then (N[2]?).getD 0 else 0, if numB op then (N[regsN op]?).getD 0 else 0⟩
def regOk (op : Int) (N : List Int) : Bool := (N.take (regsN op)).all fun x => decide (x < 8)
/-- What built answers. -/
def UPost (op : Int) (N : List Int) (e : Ending) : Prop := (regOk op N = true → e = .returned (.tuple #[.agg (insOf op N).cells, .bool true])) ∧ (regOk op N = false → e = .returned (.tuple #[.agg #[.int .i64 0, .int .i64 0, .int .i64 0, .int .i64 0, .int .u64 0], .bool false]))
def ptrs (b : Nat) : Array Value := #[.pointer (some ⟨b, 1, none⟩), .pointer (some ⟨b, 2, none⟩), .pointer (some ⟨b, 3, none⟩)]
def z5 : Array Value := #[.int .i64 0, .int .i64 0, .int .i64 0, .int .i64 0, .int .u64 0]

set_option maxRecDepth 100000 in
set_option maxHeartbeats 2000000 in
theorem built_0f (op : Int)  (w : World) (q : Nat) (hq : q < w.heap.size) (tb : Bool) (hr : regsN op = 0) (hnb : numB op = false)
    (R : ∀ w, Calls Tryz.prog 77 #[.int .i64 op] w fun e w' => e = .returned (.int .i64 0) ∧ w' = w)
    (NN : ∀ w, Calls Tryz.prog 76 #[.int .i64 op] w fun e w' => e = .returned (.tuple #[.bool false, .bool tb]) ∧ w' = w)  :
    Calls Tryz.prog 94 #[.int .i64 op, .slice (some ⟨q, 0, none⟩) 0 0] w fun e w' => UPost op [] e ∧ Keeps (fun _ => False) w w' := by
  have UY : Hid (True → UPost op [] (.returned (.tuple #[.agg #[.int .i64 op, .int .i64 0, .int .i64 0, .int .i64 0, .int .u64 0], .bool true]))) := fun hh => by
    refine ⟨fun _ => by simp [insOf, hr, hnb], fun h => ?_⟩
    simp [regOk, hr] at h
    try omega
  have UN : Hid (False → UPost op [] (.returned (.tuple #[.agg #[.int .i64 0, .int .i64 0, .int .i64 0, .int .i64 0, .int .u64 0], .bool false]))) := fun hh => by
    first
    | exact hh.elim
    | (refine ⟨fun h => ?_, fun _ => rfl⟩
       simp [regOk, hr] at h
       omega)
  have lt1 : q < w.heap.size + 1 := by omega
  have lt2 : q < w.heap.size + 1 + 1 := by omega
  clear hr hnb
  go_enter Tryz.func94, Tryz.ntmps94
  go_wp2_with (go_at_call 77; refine (R _).mono ?_; rintro e w' ⟨rfl, rfl⟩)
  go_loopw [23] (fun v wr => (v = .int .i64 0 ∧ wr = ((w.alloc (.cells z5 45)).alloc (.cells #[.int .i64 op, .int .i64 0, .int .i64 0, .int .i64 0, .int .u64 0] 45)).alloc (.cells (ptrs (w.heap.size + 1)) 170))) (fun v _ => 0 - (intOf v).toNat)
  case atStart => exact ⟨rfl, rfl⟩
  case round =>
    obtain ⟨rfl, rfl⟩ := hrel
    unfold ptrs z5
    have kk := (((Keeps.refl (fun _ => False) w).alloc (.cells #[.int .i64 op, .int .i64 0, .int .i64 0, .int .i64 0, .int .u64 0] 45)).alloc (.cells #[.int .i64 op, .int .i64 0, .int .i64 0, .int .i64 0, .int .u64 0] 45)).alloc (.cells (ptrs (w.heap.size + 1)) 170)
    go_wp2_with (first | (go_at_call 76; refine (NN _).mono ?_; rintro e w' ⟨rfl, rfl⟩) | (go_at_call 77; refine (R _).mono ?_; rintro e w' ⟨rfl, rfl⟩))
    refine ⟨rfl, .tuple #[.agg #[.int .i64 op, .int .i64 0, .int .i64 0, .int .i64 0, .int .u64 0], .bool true], ?_, UY.out trivial, kk⟩
    simp [results, Tryz.f94, go_sem]

set_option maxRecDepth 100000 in
set_option maxHeartbeats 2000000 in
theorem built_0t (op : Int) (x : Int) (w : World) (q : Nat) (hq : q < w.heap.size) (tb : Bool) (hr : regsN op = 0) (hnb : numB op = true)
    (R : ∀ w, Calls Tryz.prog 77 #[.int .i64 op] w fun e w' => e = .returned (.int .i64 0) ∧ w' = w)
    (NN : ∀ w, Calls Tryz.prog 76 #[.int .i64 op] w fun e w' => e = .returned (.tuple #[.bool true, .bool tb]) ∧ w' = w) (cx : w.cell? ⟨q, 0, none⟩ = some (.int .u64 x)) :
    Calls Tryz.prog 94 #[.int .i64 op, .slice (some ⟨q, 0, none⟩) 1 1] w fun e w' => UPost op [x] e ∧ Keeps (fun _ => False) w w' := by
  have UY : Hid (True → UPost op [x] (.returned (.tuple #[.agg #[.int .i64 op, .int .i64 0, .int .i64 0, .int .i64 0, .int .u64 x], .bool true]))) := fun hh => by
    refine ⟨fun _ => by simp [insOf, hr, hnb], fun h => ?_⟩
    simp [regOk, hr] at h
    try omega
  have UN : Hid (False → UPost op [x] (.returned (.tuple #[.agg #[.int .i64 0, .int .i64 0, .int .i64 0, .int .i64 0, .int .u64 0], .bool false]))) := fun hh => by
    first
    | exact hh.elim
    | (refine ⟨fun h => ?_, fun _ => rfl⟩
       simp [regOk, hr] at h
       omega)
  have lt1 : q < w.heap.size + 1 := by omega
  have lt2 : q < w.heap.size + 1 + 1 := by omega
  clear hr hnb
  go_enter Tryz.func94, Tryz.ntmps94
  go_wp2_with (go_at_call 77; refine (R _).mono ?_; rintro e w' ⟨rfl, rfl⟩)
  go_loopw [23] (fun v wr => (v = .int .i64 0 ∧ wr = ((w.alloc (.cells z5 45)).alloc (.cells #[.int .i64 op, .int .i64 0, .int .i64 0, .int .i64 0, .int .u64 0] 45)).alloc (.cells (ptrs (w.heap.size + 1)) 170))) (fun v _ => 0 - (intOf v).toNat)
  case atStart => exact ⟨rfl, rfl⟩
  case round =>
    obtain ⟨rfl, rfl⟩ := hrel
    unfold ptrs z5
    have kk := (((Keeps.refl (fun _ => False) w).alloc (.cells #[.int .i64 op, .int .i64 0, .int .i64 0, .int .i64 0, .int .u64 x] 45)).alloc (.cells #[.int .i64 op, .int .i64 0, .int .i64 0, .int .i64 0, .int .u64 x] 45)).alloc (.cells (ptrs (w.heap.size + 1)) 170)
    go_wp2_with (first | (go_at_call 76; refine (NN _).mono ?_; rintro e w' ⟨rfl, rfl⟩) | (go_at_call 77; refine (R _).mono ?_; rintro e w' ⟨rfl, rfl⟩))
    refine ⟨rfl, .tuple #[.agg #[.int .i64 op, .int .i64 0, .int .i64 0, .int .i64 0, .int .u64 x], .bool true], ?_, UY.out trivial, kk⟩
    simp [results, Tryz.f94, go_sem]

set_option maxRecDepth 100000 in
set_option maxHeartbeats 2000000 in
theorem built_1t (op : Int) (x y : Int) (hx0 : 0 ≤ x) (hx1 : x < 18446744073709551616) (w : World) (q : Nat) (hq : q < w.heap.size) (tb : Bool) (hr : regsN op = 1) (hnb : numB op = true)
    (R : ∀ w, Calls Tryz.prog 77 #[.int .i64 op] w fun e w' => e = .returned (.int .i64 1) ∧ w' = w)
    (NN : ∀ w, Calls Tryz.prog 76 #[.int .i64 op] w fun e w' => e = .returned (.tuple #[.bool true, .bool tb]) ∧ w' = w) (cx : w.cell? ⟨q, 0, none⟩ = some (.int .u64 x)) (cy : w.cell? ⟨q, 1, none⟩ = some (.int .u64 y)) :
    Calls Tryz.prog 94 #[.int .i64 op, .slice (some ⟨q, 0, none⟩) 2 2] w fun e w' => UPost op [x, y] e ∧ Keeps (fun _ => False) w w' := by
  have UY : Hid (True ∧ x < 8 → UPost op [x, y] (.returned (.tuple #[.agg #[.int .i64 op, .int .i64 x, .int .i64 0, .int .i64 0, .int .u64 y], .bool true]))) := fun hh => by
    refine ⟨fun _ => by simp [insOf, hr, hnb], fun h => ?_⟩
    simp [regOk, hr] at h
    try omega
  have UN : Hid (8 ≤ x → UPost op [x, y] (.returned (.tuple #[.agg #[.int .i64 0, .int .i64 0, .int .i64 0, .int .i64 0, .int .u64 0], .bool false]))) := fun hh => by
    first
    | exact hh.elim
    | (refine ⟨fun h => ?_, fun _ => rfl⟩
       simp [regOk, hr] at h
       omega)
  have lt1 : q < w.heap.size + 1 := by omega
  have lt2 : q < w.heap.size + 1 + 1 := by omega
  clear hr hnb
  go_enter Tryz.func94, Tryz.ntmps94
  go_wp2_with (go_at_call 77; refine (R _).mono ?_; rintro e w' ⟨rfl, rfl⟩)
  go_loopw [23] (fun v wr => (v = .int .i64 0 ∧ wr = ((w.alloc (.cells z5 45)).alloc (.cells #[.int .i64 op, .int .i64 0, .int .i64 0, .int .i64 0, .int .u64 0] 45)).alloc (.cells (ptrs (w.heap.size + 1)) 170)) ∨ (v = .int .i64 1 ∧ wr = ((w.alloc (.cells z5 45)).alloc (.cells #[.int .i64 op, .int .i64 x, .int .i64 0, .int .i64 0, .int .u64 0] 45)).alloc (.cells (ptrs (w.heap.size + 1)) 170) ∧ x < 8)) (fun v _ => 1 - (intOf v).toNat)
  case atStart => exact .inl ⟨rfl, rfl⟩
  case round =>
    rcases hrel with ⟨rfl, rfl⟩ | ⟨rfl, rfl, gx⟩
    · by_cases g : x < 8
      · have g' : ¬ 8 ≤ x := by omega
        unfold ptrs z5
        go_wp2_with fail
        go_roundw
        · exact .inr (⟨rfl, by first | rfl | trivial, g⟩)
        · decide
      · have g' : 8 ≤ x := by omega
        unfold ptrs z5
        have kk := (((Keeps.refl (fun _ => False) w).alloc (.cells z5 45)).alloc (.cells #[.int .i64 op, .int .i64 0, .int .i64 0, .int .i64 0, .int .u64 0] 45)).alloc (.cells (ptrs (w.heap.size + 1)) 170)
        go_wp2_with fail
        refine ⟨rfl, .tuple #[.agg #[.int .i64 0, .int .i64 0, .int .i64 0, .int .i64 0, .int .u64 0], .bool false], ?_, UN.out (by omega), kk⟩
        simp [results, Tryz.f94, go_sem]
    · unfold ptrs z5
      have kk := (((Keeps.refl (fun _ => False) w).alloc (.cells #[.int .i64 op, .int .i64 x, .int .i64 0, .int .i64 0, .int .u64 y] 45)).alloc (.cells #[.int .i64 op, .int .i64 x, .int .i64 0, .int .i64 0, .int .u64 y] 45)).alloc (.cells (ptrs (w.heap.size + 1)) 170)
      go_wp2_with (first | (go_at_call 76; refine (NN _).mono ?_; rintro e w' ⟨rfl, rfl⟩) | (go_at_call 77; refine (R _).mono ?_; rintro e w' ⟨rfl, rfl⟩))
      refine ⟨rfl, .tuple #[.agg #[.int .i64 op, .int .i64 x, .int .i64 0, .int .i64 0, .int .u64 y], .bool true], ?_, UY.out ⟨trivial, gx⟩, kk⟩
      simp [results, Tryz.f94, go_sem]

set_option maxRecDepth 100000 in
set_option maxHeartbeats 2000000 in
theorem built_2f (op : Int) (x y : Int) (hx0 : 0 ≤ x) (hx1 : x < 18446744073709551616) (hy0 : 0 ≤ y) (hy1 : y < 18446744073709551616) (w : World) (q : Nat) (hq : q < w.heap.size) (tb : Bool) (hr : regsN op = 2) (hnb : numB op = false)
    (R : ∀ w, Calls Tryz.prog 77 #[.int .i64 op] w fun e w' => e = .returned (.int .i64 2) ∧ w' = w)
    (NN : ∀ w, Calls Tryz.prog 76 #[.int .i64 op] w fun e w' => e = .returned (.tuple #[.bool false, .bool tb]) ∧ w' = w) (cx : w.cell? ⟨q, 0, none⟩ = some (.int .u64 x)) (cy : w.cell? ⟨q, 1, none⟩ = some (.int .u64 y)) :
    Calls Tryz.prog 94 #[.int .i64 op, .slice (some ⟨q, 0, none⟩) 2 2] w fun e w' => UPost op [x, y] e ∧ Keeps (fun _ => False) w w' := by
  have UY : Hid (True ∧ x < 8 ∧ y < 8 → UPost op [x, y] (.returned (.tuple #[.agg #[.int .i64 op, .int .i64 x, .int .i64 y, .int .i64 0, .int .u64 0], .bool true]))) := fun hh => by
    refine ⟨fun _ => by simp [insOf, hr, hnb], fun h => ?_⟩
    simp [regOk, hr] at h
    try omega
  have UN : Hid (8 ≤ x ∨ 8 ≤ y → UPost op [x, y] (.returned (.tuple #[.agg #[.int .i64 0, .int .i64 0, .int .i64 0, .int .i64 0, .int .u64 0], .bool false]))) := fun hh => by
    first
    | exact hh.elim
    | (refine ⟨fun h => ?_, fun _ => rfl⟩
       simp [regOk, hr] at h
       omega)
  have lt1 : q < w.heap.size + 1 := by omega
  have lt2 : q < w.heap.size + 1 + 1 := by omega
  clear hr hnb
  go_enter Tryz.func94, Tryz.ntmps94
  go_wp2_with (go_at_call 77; refine (R _).mono ?_; rintro e w' ⟨rfl, rfl⟩)
  go_loopw [23] (fun v wr => (v = .int .i64 0 ∧ wr = ((w.alloc (.cells z5 45)).alloc (.cells #[.int .i64 op, .int .i64 0, .int .i64 0, .int .i64 0, .int .u64 0] 45)).alloc (.cells (ptrs (w.heap.size + 1)) 170)) ∨ (v = .int .i64 1 ∧ wr = ((w.alloc (.cells z5 45)).alloc (.cells #[.int .i64 op, .int .i64 x, .int .i64 0, .int .i64 0, .int .u64 0] 45)).alloc (.cells (ptrs (w.heap.size + 1)) 170) ∧ x < 8) ∨ (v = .int .i64 2 ∧ wr = ((w.alloc (.cells z5 45)).alloc (.cells #[.int .i64 op, .int .i64 x, .int .i64 y, .int .i64 0, .int .u64 0] 45)).alloc (.cells (ptrs (w.heap.size + 1)) 170) ∧ x < 8 ∧ y < 8)) (fun v _ => 2 - (intOf v).toNat)
  case atStart => exact .inl ⟨rfl, rfl⟩
  case round =>
    rcases hrel with ⟨rfl, rfl⟩ | ⟨rfl, rfl, gx⟩ | ⟨rfl, rfl, gx, gy⟩
    · by_cases g : x < 8
      · have g' : ¬ 8 ≤ x := by omega
        unfold ptrs z5
        go_wp2_with fail
        go_roundw
        · exact .inr (.inl ⟨rfl, by first | rfl | trivial, g⟩)
        · decide
      · have g' : 8 ≤ x := by omega
        unfold ptrs z5
        have kk := (((Keeps.refl (fun _ => False) w).alloc (.cells z5 45)).alloc (.cells #[.int .i64 op, .int .i64 0, .int .i64 0, .int .i64 0, .int .u64 0] 45)).alloc (.cells (ptrs (w.heap.size + 1)) 170)
        go_wp2_with fail
        refine ⟨rfl, .tuple #[.agg #[.int .i64 0, .int .i64 0, .int .i64 0, .int .i64 0, .int .u64 0], .bool false], ?_, UN.out (by omega), kk⟩
        simp [results, Tryz.f94, go_sem]
    · by_cases g : y < 8
      · have g' : ¬ 8 ≤ y := by omega
        unfold ptrs z5
        go_wp2_with fail
        go_roundw
        · exact .inr (.inr (⟨rfl, by first | rfl | trivial, gx, g⟩))
        · decide
      · have g' : 8 ≤ y := by omega
        unfold ptrs z5
        have kk := (((Keeps.refl (fun _ => False) w).alloc (.cells z5 45)).alloc (.cells #[.int .i64 op, .int .i64 x, .int .i64 0, .int .i64 0, .int .u64 0] 45)).alloc (.cells (ptrs (w.heap.size + 1)) 170)
        go_wp2_with fail
        refine ⟨rfl, .tuple #[.agg #[.int .i64 0, .int .i64 0, .int .i64 0, .int .i64 0, .int .u64 0], .bool false], ?_, UN.out (by omega), kk⟩
        simp [results, Tryz.f94, go_sem]
    · unfold ptrs z5
      have kk := (((Keeps.refl (fun _ => False) w).alloc (.cells #[.int .i64 op, .int .i64 x, .int .i64 y, .int .i64 0, .int .u64 0] 45)).alloc (.cells #[.int .i64 op, .int .i64 x, .int .i64 y, .int .i64 0, .int .u64 0] 45)).alloc (.cells (ptrs (w.heap.size + 1)) 170)
      go_wp2_with (first | (go_at_call 76; refine (NN _).mono ?_; rintro e w' ⟨rfl, rfl⟩) | (go_at_call 77; refine (R _).mono ?_; rintro e w' ⟨rfl, rfl⟩))
      refine ⟨rfl, .tuple #[.agg #[.int .i64 op, .int .i64 x, .int .i64 y, .int .i64 0, .int .u64 0], .bool true], ?_, UY.out ⟨trivial, gx, gy⟩, kk⟩
      simp [results, Tryz.f94, go_sem]

set_option maxRecDepth 100000 in
set_option maxHeartbeats 2000000 in
theorem built_3f (op : Int) (x y z : Int) (hx0 : 0 ≤ x) (hx1 : x < 18446744073709551616) (hy0 : 0 ≤ y) (hy1 : y < 18446744073709551616) (hz0 : 0 ≤ z) (hz1 : z < 18446744073709551616) (w : World) (q : Nat) (hq : q < w.heap.size) (tb : Bool) (hr : regsN op = 3) (hnb : numB op = false)
    (R : ∀ w, Calls Tryz.prog 77 #[.int .i64 op] w fun e w' => e = .returned (.int .i64 3) ∧ w' = w)
    (NN : ∀ w, Calls Tryz.prog 76 #[.int .i64 op] w fun e w' => e = .returned (.tuple #[.bool false, .bool tb]) ∧ w' = w) (cx : w.cell? ⟨q, 0, none⟩ = some (.int .u64 x)) (cy : w.cell? ⟨q, 1, none⟩ = some (.int .u64 y)) (cz : w.cell? ⟨q, 2, none⟩ = some (.int .u64 z)) :
    Calls Tryz.prog 94 #[.int .i64 op, .slice (some ⟨q, 0, none⟩) 3 3] w fun e w' => UPost op [x, y, z] e ∧ Keeps (fun _ => False) w w' := by
  have UY : Hid (True ∧ x < 8 ∧ y < 8 ∧ z < 8 → UPost op [x, y, z] (.returned (.tuple #[.agg #[.int .i64 op, .int .i64 x, .int .i64 y, .int .i64 z, .int .u64 0], .bool true]))) := fun hh => by
    refine ⟨fun _ => by simp [insOf, hr, hnb], fun h => ?_⟩
    simp [regOk, hr] at h
    try omega
  have UN : Hid (8 ≤ x ∨ 8 ≤ y ∨ 8 ≤ z → UPost op [x, y, z] (.returned (.tuple #[.agg #[.int .i64 0, .int .i64 0, .int .i64 0, .int .i64 0, .int .u64 0], .bool false]))) := fun hh => by
    first
    | exact hh.elim
    | (refine ⟨fun h => ?_, fun _ => rfl⟩
       simp [regOk, hr] at h
       omega)
  have lt1 : q < w.heap.size + 1 := by omega
  have lt2 : q < w.heap.size + 1 + 1 := by omega
  clear hr hnb
  go_enter Tryz.func94, Tryz.ntmps94
  go_wp2_with (go_at_call 77; refine (R _).mono ?_; rintro e w' ⟨rfl, rfl⟩)
  go_loopw [23] (fun v wr => (v = .int .i64 0 ∧ wr = ((w.alloc (.cells z5 45)).alloc (.cells #[.int .i64 op, .int .i64 0, .int .i64 0, .int .i64 0, .int .u64 0] 45)).alloc (.cells (ptrs (w.heap.size + 1)) 170)) ∨ (v = .int .i64 1 ∧ wr = ((w.alloc (.cells z5 45)).alloc (.cells #[.int .i64 op, .int .i64 x, .int .i64 0, .int .i64 0, .int .u64 0] 45)).alloc (.cells (ptrs (w.heap.size + 1)) 170) ∧ x < 8) ∨ (v = .int .i64 2 ∧ wr = ((w.alloc (.cells z5 45)).alloc (.cells #[.int .i64 op, .int .i64 x, .int .i64 y, .int .i64 0, .int .u64 0] 45)).alloc (.cells (ptrs (w.heap.size + 1)) 170) ∧ x < 8 ∧ y < 8) ∨ (v = .int .i64 3 ∧ wr = ((w.alloc (.cells z5 45)).alloc (.cells #[.int .i64 op, .int .i64 x, .int .i64 y, .int .i64 z, .int .u64 0] 45)).alloc (.cells (ptrs (w.heap.size + 1)) 170) ∧ x < 8 ∧ y < 8 ∧ z < 8)) (fun v _ => 3 - (intOf v).toNat)
  case atStart => exact .inl ⟨rfl, rfl⟩
  case round =>
    rcases hrel with ⟨rfl, rfl⟩ | ⟨rfl, rfl, gx⟩ | ⟨rfl, rfl, gx, gy⟩ | ⟨rfl, rfl, gx, gy, gz⟩
    · by_cases g : x < 8
      · have g' : ¬ 8 ≤ x := by omega
        unfold ptrs z5
        go_wp2_with fail
        go_roundw
        · exact .inr (.inl ⟨rfl, by first | rfl | trivial, g⟩)
        · decide
      · have g' : 8 ≤ x := by omega
        unfold ptrs z5
        have kk := (((Keeps.refl (fun _ => False) w).alloc (.cells z5 45)).alloc (.cells #[.int .i64 op, .int .i64 0, .int .i64 0, .int .i64 0, .int .u64 0] 45)).alloc (.cells (ptrs (w.heap.size + 1)) 170)
        go_wp2_with fail
        refine ⟨rfl, .tuple #[.agg #[.int .i64 0, .int .i64 0, .int .i64 0, .int .i64 0, .int .u64 0], .bool false], ?_, UN.out (by omega), kk⟩
        simp [results, Tryz.f94, go_sem]
    · by_cases g : y < 8
      · have g' : ¬ 8 ≤ y := by omega
        unfold ptrs z5
        go_wp2_with fail
        go_roundw
        · exact .inr (.inr (.inl ⟨rfl, by first | rfl | trivial, gx, g⟩))
        · decide
      · have g' : 8 ≤ y := by omega
        unfold ptrs z5
        have kk := (((Keeps.refl (fun _ => False) w).alloc (.cells z5 45)).alloc (.cells #[.int .i64 op, .int .i64 x, .int .i64 0, .int .i64 0, .int .u64 0] 45)).alloc (.cells (ptrs (w.heap.size + 1)) 170)
        go_wp2_with fail
        refine ⟨rfl, .tuple #[.agg #[.int .i64 0, .int .i64 0, .int .i64 0, .int .i64 0, .int .u64 0], .bool false], ?_, UN.out (by omega), kk⟩
        simp [results, Tryz.f94, go_sem]
    · by_cases g : z < 8
      · have g' : ¬ 8 ≤ z := by omega
        unfold ptrs z5
        go_wp2_with fail
        go_roundw
        · exact .inr (.inr (.inr (⟨rfl, by first | rfl | trivial, gx, gy, g⟩)))
        · decide
      · have g' : 8 ≤ z := by omega
        unfold ptrs z5
        have kk := (((Keeps.refl (fun _ => False) w).alloc (.cells z5 45)).alloc (.cells #[.int .i64 op, .int .i64 x, .int .i64 y, .int .i64 0, .int .u64 0] 45)).alloc (.cells (ptrs (w.heap.size + 1)) 170)
        go_wp2_with fail
        refine ⟨rfl, .tuple #[.agg #[.int .i64 0, .int .i64 0, .int .i64 0, .int .i64 0, .int .u64 0], .bool false], ?_, UN.out (by omega), kk⟩
        simp [results, Tryz.f94, go_sem]
    · unfold ptrs z5
      have kk := (((Keeps.refl (fun _ => False) w).alloc (.cells #[.int .i64 op, .int .i64 x, .int .i64 y, .int .i64 z, .int .u64 0] 45)).alloc (.cells #[.int .i64 op, .int .i64 x, .int .i64 y, .int .i64 z, .int .u64 0] 45)).alloc (.cells (ptrs (w.heap.size + 1)) 170)
      go_wp2_with (first | (go_at_call 76; refine (NN _).mono ?_; rintro e w' ⟨rfl, rfl⟩) | (go_at_call 77; refine (R _).mono ?_; rintro e w' ⟨rfl, rfl⟩))
      refine ⟨rfl, .tuple #[.agg #[.int .i64 op, .int .i64 x, .int .i64 y, .int .i64 z, .int .u64 0], .bool true], ?_, UY.out ⟨trivial, gx, gy, gz⟩, kk⟩
      simp [results, Tryz.f94, go_sem]

theorem u64s_cell {w : World} {q : Nat} {N : List Int} (h : w.heap[q]? = some (.cells (u64s N) 40 (0, 0))) {k : Nat} (hk : k < N.length) : w.cell? ⟨q, k, none⟩ = some (.int .u64 ((N[k]?).getD 0)) := by
  rw [cell_of_block h, u64s_get _ _ hk]

theorem len_two {N : List Int} (h : N.length = 2) : ∃ x y, N = [x, y] := by
  match N, h with
  | [x, y], _ => exact ⟨x, y, rfl⟩
theorem len_three {N : List Int} (h : N.length = 3) : ∃ x y z, N = [x, y, z] := by
  match N, h with
  | [x, y, z], _ => exact ⟨x, y, z, rfl⟩
/-- built, for every operation. -/
theorem built_any (op : Int) (h0 : 1 ≤ op) (h1 : op ≤ 17) (N : List Int) (hN : N.length = partsN op) (hb : ∀ x ∈ N, 0 ≤ x ∧ x < 18446744073709551616) (w : World) (q : Nat) (h : w.heap[q]? = some (.cells (u64s N) 40 (0, 0))) :
    Calls Tryz.prog 94 #[.int .i64 op, .slice (some ⟨q, 0, none⟩) N.length N.length] w fun e w' => UPost op N e ∧ Keeps (fun _ => False) w w' := by
  have R := regs_any op h0 h1
  have NN := number_any op h0 h1
  have hq := lt_of_block h
  have hrn : (regsN op = 0 ∧ numB op = false) ∨ (regsN op = 0 ∧ numB op = true) ∨ (regsN op = 1 ∧ numB op = true) ∨ (regsN op = 2 ∧ numB op = false) ∨ (regsN op = 3 ∧ numB op = false) := by
    rcases op17 h0 h1 with rfl | rfl | rfl | rfl | rfl | rfl | rfl | rfl | rfl | rfl | rfl | rfl | rfl | rfl | rfl | rfl | rfl <;> decide
  unfold partsN at hN
  rcases hrn with ⟨hr, hn⟩ | ⟨hr, hn⟩ | ⟨hr, hn⟩ | ⟨hr, hn⟩ | ⟨hr, hn⟩
  all_goals rw [hr, hn] at hN; rw [hr] at R; rw [hn] at NN
  · obtain rfl : N = [] := by simpa using hN
    exact built_0f op w q hq _ hr hn R NN
  · obtain ⟨x, rfl⟩ : ∃ x, N = [x] := List.length_eq_one_iff.1 (by simpa using hN)
    exact built_0t op x w q hq _ hr hn R NN (u64s_cell h (k := 0) (by simp))
  · obtain ⟨x, y, rfl⟩ := len_two (by simpa using hN)
    have hx := hb x (by simp)
    exact built_1t op x y hx.1 hx.2 w q hq _ hr hn R NN (u64s_cell h (k := 0) (by simp)) (u64s_cell h (k := 1) (by simp))
  · obtain ⟨x, y, rfl⟩ := len_two (by simpa using hN)
    have hx := hb x (by simp)
    have hy := hb y (by simp)
    exact built_2f op x y hx.1 hx.2 hy.1 hy.2 w q hq _ hr hn R NN (u64s_cell h (k := 0) (by simp)) (u64s_cell h (k := 1) (by simp))
  · obtain ⟨x, y, z, rfl⟩ := len_three (by simpa using hN)
    have hx := hb x (by simp)
    have hy := hb y (by simp)
    have hz := hb z (by simp)
    exact built_3f op x y z hx.1 hx.2 hy.1 hy.2 hz.1 hz.2 w q hq _ hr hn R NN (u64s_cell h (k := 0) (by simp)) (u64s_cell h (k := 1) (by simp)) (u64s_cell h (k := 2) (by simp))
end Go.Proofs.YtppejcfghlpbjaaGreatDoor
