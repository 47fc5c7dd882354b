/-
  Walks of the program's Slice and Fill at a made row, and of the document's own Fill. No statement of the seat is proved here.
-/
import Derived.Test.YtmffkcbdgpaieaaPlayC
namespace Go.Proofs.Ytmffkcbdgpaieaa
open Go.RowKit

/-- The words from x up to y. -/
def part (ws : List Int) (x y : Int) : List Int := (ws.drop x.toNat).take (y.toNat - x.toNat)
theorem part_len (ws : List Int) (x y : Int) (h : y ≤ ws.length) : (part ws x y).length = y.toNat - x.toNat := by
  simp [part]
  omega
theorem part_get (ws : List Int) (x y : Int) (i : Nat) (hi : i < y.toNat - x.toNat) : (part ws x y)[i]?.getD 0 = ws[x.toNat + i]?.getD 0 := by
  unfold part
  rw [List.getElem?_take_of_lt hi, List.getElem?_drop]
theorem reads_part {w : World} {c : Nat} {ws : List Int} {x y : Int} {a : Nat} (hc : ∀ i, i < ws.length → w.cell? ⟨c, i, none⟩ = some (.int .u64 (ws[i]?.getD 0))) (hy : y ≤ ws.length) (ha : x < y → a = x.toNat) (hx : 0 ≤ x) : Reads w (some ⟨c, a, none⟩) (part ws x y) := fun i hi => by
  rw [part_len ws x y hy] at hi
  refine ⟨_, rfl, ?_⟩
  rw [addr_add, ha (by omega), hc _ (by omega), part_get ws x y i hi]

/-- New words are handed back. -/
def NewPart (w : World) (ws : List Int) (e : Ending) (w' : World) : Prop := e = .returned (.tuple #[.slice (some ⟨w.heap.size, 0, none⟩) ws.length ws.length, .int .i64 0]) ∧ w'.heap[w.heap.size]? = some (.cells (u64s ws) 36 (0, 0)) ∧ Keeps (fun _ => False) w w'

set_option maxHeartbeats 400000 in
theorem slice_arg (b c : Nat) (ws : List Int) (n : Int) (x y : Int) (w : World) (h : RowAt w 74 36 b c ws n) (hxy : y < x) : Calls Try.prog 56 #[.pointer (some ⟨b, 0, none⟩), .int .u64 x, .int .u64 y] w fun e w' => e = .returned (.tuple #[.slice none 0 0, .int .i64 2]) ∧ w' = w := by
  have c0 := h.cell0
  have hp := h.pos
  have hd : decide (0 < ws.length) = true := by simp; omega
  go_enter Try.func56, Try.ntmps56
  go_wp2_with fail
  refine (made_at b _ ws.length ws.length _ c0).mono ?_
  rintro e w' ⟨rfl, rfl⟩
  go_wp2_with fail
  go_ret2
  exact ⟨rfl, rfl⟩
set_option maxHeartbeats 400000 in
theorem slice_range (b c : Nat) (ws : List Int) (n : Int) (x y : Int) (w : World) (h : RowAt w 74 36 b c ws n) (hxy : x ≤ y) (hy : (ws.length : Int) < y) : Calls Try.prog 56 #[.pointer (some ⟨b, 0, none⟩), .int .u64 x, .int .u64 y] w fun e w' => e = .returned (.tuple #[.slice none 0 0, .int .i64 4]) ∧ w' = w := by
  have c0 := h.cell0
  have hp := h.pos
  have hle := h.le
  have hd : decide (0 < ws.length) = true := by simp; omega
  go_enter Try.func56, Try.ntmps56
  go_wp2_with fail
  refine (made_at b _ ws.length ws.length _ c0).mono ?_
  rintro e w' ⟨rfl, rfl⟩
  go_wp2_with fail
  refine (len_at b _ ws.length ws.length _ c0).mono ?_
  rintro e w' ⟨rfl, rfl⟩
  go_wp2_with fail
  go_ret2
  exact ⟨rfl, rfl⟩
set_option maxHeartbeats 400000 in
theorem slice_in (b c : Nat) (ws : List Int) (n : Int) (x y : Int) (w : World) (h : RowAt w 74 36 b c ws n) (hx : 0 ≤ x) (hxy : x ≤ y) (hy : y ≤ (ws.length : Int)) : Calls Try.prog 56 #[.pointer (some ⟨b, 0, none⟩), .int .u64 x, .int .u64 y] w (NewPart w (part ws x y)) := by
  have c0 := h.cell0
  have hp := h.pos
  have hle := h.le
  have hd : decide (0 < ws.length) = true := by simp; omega
  have hlen := part_len ws x y hy
  have hl2 : y.toNat - x.toNat ≤ 65536 := by omega
  have hcl : ∀ a, (x < y → a = x.toNat) → ∀ cp, Calls Try.prog 37 #[.slice (some ⟨c, a, none⟩) (y.toNat - x.toNat) cp] w fun e w' => e = .returned (.slice (some ⟨w.heap.size, 0, none⟩) (y.toNat - x.toNat) (y.toNat - x.toNat)) ∧ w'.heap[w.heap.size]? = some (.cells (u64s (part ws x y)) 36 (0, 0)) ∧ w'.heap.size = w.heap.size + 1 ∧ Keeps (fun _ => False) w w' := fun a ha cp =>
    clone_any _ _ cp (part ws x y) w hlen hl2 (reads_part (fun i hi => h.wcell i hi) hy ha hx)
  unfold NewPart
  rw [hlen]
  clear hlen
  by_cases hcx : ws.length = x.toNat
  · have hn : ¬ x < y := by omega
    have hd' : decide (0 < x) = true := by simp; omega
    go_enter Try.func56, Try.ntmps56
    go_wp2_with fail
    refine (made_at b _ ws.length ws.length _ c0).mono ?_
    rintro e w' ⟨rfl, rfl⟩
    go_wp2_with fail
    refine (len_at b _ ws.length ws.length _ c0).mono ?_
    rintro e w' ⟨rfl, rfl⟩
    go_wp2_with fail
    refine (hcl _ (fun h => by omega) _).mono ?_
    rintro e w' ⟨rfl, h1, h2, h3⟩
    have H1 : Hid _ := h1
    clear h1 h2
    go_wp2_with fail
    go_ret2
    exact ⟨rfl, H1.out, h3⟩
  · go_enter Try.func56, Try.ntmps56
    go_wp2_with fail
    refine (made_at b _ ws.length ws.length _ c0).mono ?_
    rintro e w' ⟨rfl, rfl⟩
    go_wp2_with fail
    refine (len_at b _ ws.length ws.length _ c0).mono ?_
    rintro e w' ⟨rfl, rfl⟩
    go_wp2_with fail
    refine (hcl _ (fun _ => rfl) _).mono ?_
    rintro e w' ⟨rfl, h1, h2, h3⟩
    have H1 : Hid _ := h1
    clear h1 h2
    go_wp2_with fail
    go_ret2
    exact ⟨rfl, H1.out, h3⟩

/-- The words behind k words of vs, stored from f on. -/
def fillTo (ws : List Int) (f : Nat) (vs : List Int) : Nat → List Int
  | 0 => ws
  | k + 1 => (fillTo ws f vs k).set (f + k) (vs[k]?.getD 0)
theorem fillTo_len (ws : List Int) (f : Nat) (vs : List Int) : ∀ k, (fillTo ws f vs k).length = ws.length
  | 0 => rfl
  | k + 1 => by rw [fillTo, List.length_set, fillTo_len ws f vs k]
theorem fillTo_eq (ws : List Int) (f : Nat) (vs : List Int) : ∀ k, k ≤ vs.length → f + k ≤ ws.length → fillTo ws f vs k = ws.take f ++ vs.take k ++ ws.drop (f + k)
  | 0, _, _ => by simp [fillTo]
  | k + 1, hk, hf => by
    rw [fillTo, fillTo_eq ws f vs k (by omega) (by omega)]
    have h1 : vs.take (k + 1) = vs.take k ++ [vs[k]'(by omega)] := List.take_succ_eq_append_getElem (by omega)
    have h2 : ws.drop (f + k) = ws[f + k]'(by omega) :: ws.drop (f + k + 1) := List.drop_eq_getElem_cons (by omega)
    have g1 : vs[k]?.getD 0 = vs[k]'(by omega) := by rw [List.getElem?_eq_getElem (by omega)]; rfl
    rw [h1, h2, g1, List.set_append_right _ _ (by simp; omega)]
    simp only [List.length_append, List.length_take]
    rw [show f + k - (min f ws.length + min k vs.length) = 0 by omega]
    rw [List.set_cons_zero, List.append_assoc, List.append_assoc, List.append_assoc, Nat.add_assoc]
    rfl
theorem Wf.fillTo {ws vs : List Int} {f : Nat} (h : Wf ws) (hv : Wf vs) : ∀ k, k ≤ vs.length → Wf (fillTo ws f vs k)
  | 0, _ => h
  | k + 1, hk => fun x hx => by
    rcases List.mem_or_eq_of_mem_set hx with hx | rfl
    · exact Wf.fillTo h hv k (by omega) x hx
    · exact hv.get k

/-- The words behind a Fill, and its error. -/
def filled (ws : List Int) (a : Int) (vs : List Int) : List Int := if a.toNat + vs.length ≤ ws.length then fillTo ws a.toNat vs vs.length else ws
def fillErr (ws : List Int) (a : Int) (vs : List Int) : Int := if vs.length = 0 then 0 else if a.toNat + vs.length ≤ ws.length then 0 else 4
theorem filled_len (ws : List Int) (a : Int) (vs : List Int) : (filled ws a vs).length = ws.length := by unfold filled; split <;> simp [fillTo_len]
theorem Wf.filled {ws vs : List Int} (h : Wf ws) (hv : Wf vs) (a : Int) : Wf (filled ws a vs) := by
  unfold Ytmffkcbdgpaieaa.filled
  split
  · exact h.fillTo hv _ (Nat.le_refl _)
  · exact h
theorem filled_nil (ws : List Int) (a : Int) : filled ws a [] = ws := by unfold filled; split <;> rfl

/-- The row behind a copy into it. -/
theorem copy_into {w : World} {b c : Nat} {ws : List Int} {n : Int} (h : RowAt w 74 36 b c ws n) (a : Nat) (sp : Addr) (l cp dc : Nat) (vs : List Int) (hn : vs.length = l) (hr : Reads w (some sp) vs) (hf : a + l ≤ ws.length) :
    ∃ W, (∀ ty, (Builtin.copy_ #[22, 22] ty #[.slice (some ⟨c, a, none⟩) (ws.length - a) dc, .slice (some sp) l cp]).run Try.prog w = .ok (goInt l) W) ∧ RowAt W 74 36 b c (fillTo ws a vs l) n ∧ Keeps (fun k => k = b ∨ k = c) w W := by
  have hrun := fun ty => run_copy_row (P := Try.prog) w 22 22 ty 36 c a (ws.length - a) dc sp l cp (u64s ws) 36 (u64s vs).toList Try.underlying22 size36 h.words (by rw [show (u64s vs).toList.length = l by simp [u64s, hn]]; exact (Nat.min_eq_left (by omega)).symm)
      (fun j v hj => by
        have hj' : j < vs.length := by
          have := (List.getElem?_eq_some_iff.1 hj).1
          simpa [u64s] using this
        obtain ⟨a', ha', hc⟩ := hr j hj'
        cases ha'
        rw [hc, ← u64s_get vs j hj', ← hj]
        simp) (by simp [u64s, hn]; omega) (fun v hv => by
        simp [u64s] at hv
        obtain ⟨y, _, rfl⟩ := hv
        rfl)
  have hlen : (u64s vs).toList.length = l := by simp [u64s, hn]
  rw [hlen] at hrun
  have he : ((u64s ws).toList.take a ++ (u64s vs).toList ++ (u64s ws).toList.drop (a + l)).toArray = u64s (fillTo ws a vs l) := by
    rw [fillTo_eq ws a vs l (by omega) hf, ← hn, List.take_length]
    simp [u64s]
  rw [he] at hrun
  refine ⟨_, hrun, ⟨?_, ?_, h.ne, by rw [fillTo_len]; exact h.pos, by rw [fillTo_len]; exact h.le⟩, rfl, rfl, rfl, by simp [World.setRow], fun k hk hs => setRow_other w c k _ (fun e => hs (.inr e))⟩
  · rw [fillTo_len]
    exact (setRow_other w c b _ h.ne).trans h.row
  · exact setRow_heap w c _ _ 36 (0, 0) h.words

set_option maxHeartbeats 400000 in
theorem fill_at (b c : Nat) (ws : List Int) (n a : Int) (sp : Option Addr) (l cp : Nat) (vs : List Int) (w : World) (h : RowAt w 74 36 b c ws n) (ha : 0 ≤ a) (hn : vs.length = l) (hr : Reads w sp vs) (hl : l * 8 ≤ 140737488355328) :
    Calls Try.prog 57 #[.pointer (some ⟨b, 0, none⟩), .int .u64 a, .slice sp l cp] w fun e w' => e = .returned (.int .i64 (fillErr ws a vs)) ∧ RowAt w' 74 36 b c (filled ws a vs) n ∧ Keeps (fun k => k = b ∨ k = c) w w' := by
  have c0 := h.cell0
  have hp := h.pos
  have hle := h.le
  have hd : decide (0 < ws.length) = true := by simp; omega
  by_cases h0 : l = 0
  · subst h0
    obtain rfl : vs = [] := List.eq_nil_of_length_eq_zero hn
    rw [filled_nil, show fillErr ws a [] = 0 from rfl]
    go_enter Try.func57, Try.ntmps57
    go_wp2_with fail
    refine (made_at b _ ws.length ws.length _ c0).mono ?_
    rintro e w' ⟨rfl, rfl⟩
    go_wp2_with fail
    go_ret
    exact ⟨rfl, h, Keeps.refl _ _⟩
  · have h0' : ((l : Int) == 0) = false := by simp; omega
    obtain ⟨ad, rfl, _⟩ := hr 0 (by omega)
    have hls : (l : Int) ≤ 17592186044416 := by omega
    by_cases hin : a < (ws.length : Int)
    · have hd2 : decide (a < (ws.length : Int)) = true := by simp; omega
      by_cases hfit : a.toNat + l ≤ ws.length
      · obtain ⟨W, hcp, hW, hK⟩ := copy_into h a.toNat ad l cp (ws.length - a.toNat) vs hn hr hfit
        rw [show fillErr ws a vs = 0 from by unfold fillErr; rw [if_neg (by omega), if_pos (by omega)], show filled ws a vs = fillTo ws a.toNat vs l from by unfold filled; rw [if_pos (by omega), hn]]
        have hne : ¬ ws.length = a.toNat := by omega
        go_enter Try.func57, Try.ntmps57
        go_wp2_with fail
        refine (made_at b _ ws.length ws.length _ c0).mono ?_
        rintro e w' ⟨rfl, rfl⟩
        go_wp2_with fail
        refine (has_at a b _ ws.length ws.length hle _ c0).mono ?_
        rintro e w' ⟨rfl, rfl⟩
        go_wp2_with fail
        go_ret
        exact ⟨rfl, hW, hK⟩
      · rw [show fillErr ws a vs = 4 from by unfold fillErr; rw [if_neg (by omega), if_neg (by omega)], show filled ws a vs = ws from by unfold filled; rw [if_neg (by omega)]]
        have hne : ¬ ws.length = a.toNat := by omega
        go_enter Try.func57, Try.ntmps57
        go_wp2_with fail
        refine (made_at b _ ws.length ws.length _ c0).mono ?_
        rintro e w' ⟨rfl, rfl⟩
        go_wp2_with fail
        refine (has_at a b _ ws.length ws.length hle _ c0).mono ?_
        rintro e w' ⟨rfl, rfl⟩
        go_wp2_with fail
        go_ret
        exact ⟨rfl, h, Keeps.refl _ _⟩
    · have hd2 : decide (a < (ws.length : Int)) = false := by simp; omega
      rw [show fillErr ws a vs = 4 from by unfold fillErr; rw [if_neg (by omega), if_neg (by omega)], show filled ws a vs = ws from by unfold filled; rw [if_neg (by omega)]]
      go_enter Try.func57, Try.ntmps57
      go_wp2_with fail
      refine (made_at b _ ws.length ws.length _ c0).mono ?_
      rintro e w' ⟨rfl, rfl⟩
      go_wp2_with fail
      refine (has_at a b _ ws.length ws.length hle _ c0).mono ?_
      rintro e w' ⟨rfl, rfl⟩
      go_wp2_with fail
      go_ret
      exact ⟨rfl, h, Keeps.refl _ _⟩

end Go.Proofs.Ytmffkcbdgpaieaa
