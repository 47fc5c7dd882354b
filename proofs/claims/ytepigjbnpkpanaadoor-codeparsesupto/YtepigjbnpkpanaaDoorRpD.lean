
/- What is read of a line has this line for its text: plain facts; and CodeParses' walk. No statement of the seat is proved here. -/
import Derived.Test.YtepigjbnpkpanaaDoorRpC
namespace Go.Proofs.YtepigjbnpkpanaaDoor
open Go.RowKit Go.Shelf

theorem pcs_join : ∀ (l h : List UInt8) (ws : List (List UInt8)), pcs l = h :: ws → l = h ++ ws.flatMap fun x => 32 :: x
  | [], h, ws, e => by simp [pcs] at e; obtain ⟨rfl, rfl⟩ := e; rfl
  | c :: t, h, ws, e => by
    unfold pcs at e
    split at e
    · rename_i hc
      simp at e
      obtain ⟨rfl, e⟩ := e
      obtain ⟨h', ws', hp⟩ : ∃ h ws, pcs t = h :: ws := by
        cases hq : pcs t with
        | nil => exact absurd hq (pcs_ne t)
        | cons h ws => exact ⟨h, ws, rfl⟩
      have := pcs_join t h' ws' hp
      rw [hp] at e
      rw [← e, hc, this]
      simp
    · split at e
      · rename_i a b hq
        simp at e
        obtain ⟨rfl, rfl⟩ := e
        have := pcs_join t a _ hq
        rw [List.cons_append, ← this]
      · rename_i hq
        exact absurd hq (pcs_ne t)

theorem dec_forth : ∀ (k : Nat) (x : List UInt8) (n : Nat), x.length = k → x ≠ [] → decGo true 0 x = some n → x = Lib.decDigits n := by
  intro k
  induction k with
  | zero => intro x n h1 h2; exact absurd (List.length_eq_zero_iff.1 h1) h2
  | succ k ih =>
    intro x n h1 h2 h3
    obtain ⟨y, c, rfl⟩ : ∃ y c, x = y ++ [c] := ⟨x.dropLast, x.getLast h2, (List.dropLast_concat_getLast h2).symm⟩
    rw [decGo_snoc] at h3
    obtain ⟨m, hm, h4⟩ := Option.bind_eq_some_iff.1 h3
    rw [decGo] at h4
    split at h4
    · cases h4
    · rename_i hc
      split at h4
      · cases h4
      · rename_i hb
        rw [decGo] at h4
        have hn : m * 10 + (c.toNat - 48) = n := Option.some.inj h4
        have hcc : c = UInt8.ofNat (48 + (c.toNat - 48)) := by
          apply UInt8.toNat.inj
          rw [byte_of (c.toNat - 48) (by omega)]
          omega
        by_cases hy : y = []
        · subst hy
          simp [decGo] at hm
          subst hm
          rw [Lib.decDigits, dif_pos (by omega), ← hn]
          simpa using hcc
        · have hye : y.isEmpty = false := by simpa using hy
          rw [hye] at hc
          have hm0 : m ≠ 0 := fun e => hc (.inr (.inr ⟨rfl, e⟩))
          have := ih y m (by simpa using h1) hy hm
          rw [Lib.decDigits, dif_neg (by omega), show n / 10 = m by omega, ← this, show n % 10 = c.toNat - 48 by omega, ← hcc]
theorem decL_forth {x : List UInt8} {n : Nat} (h : decL x = some n) : x = Lib.decDigits n := by
  unfold decL at h
  split at h
  · cases h
  · rename_i hne
    exact dec_forth _ x n rfl hne h
theorem decAll_forth : ∀ (ws : List (List UInt8)) (N : List Int), decAll ws = some N → ws = N.map (fun n => Lib.decDigits n.toNat) ∧ ∀ x ∈ N, 0 ≤ x ∧ x < 18446744073709551616
  | [], N, h => by simp [decAll] at h; subst h; exact ⟨rfl, by simp⟩
  | y :: t, N, h => by
    rw [decAll] at h
    split at h
    · cases h
    · rename_i m hm
      obtain ⟨R, hR, rfl⟩ := Option.map_eq_some_iff.1 h
      obtain ⟨h1, h2⟩ := decAll_forth t R hR
      have hl := decL_lt hm
      refine ⟨?_, ?_⟩
      · rw [List.map_cons, ← h1, ← decL_forth (n := (m : Int).toNat) (by simpa using hm)]
      · intro x hx
        rcases List.mem_cons.1 hx with rfl | hx
        · omega
        · exact h2 x hx
theorem namedN_forth {h : List UInt8} {k : Nat} (e : namedN h = some k) : 1 ≤ k ∧ k ≤ 17 ∧ (nms[k]?).getD [] = h := by
  have h1 := List.find?_some e
  have h2 := List.mem_of_find?_eq_some e
  simp only [Bool.and_eq_true, decide_eq_true_eq, beq_iff_eq] at h1
  have : k < 18 := by simpa using h2
  exact ⟨h1.1, by omega, h1.2⟩

theorem ins_forth {op : Int} {N : List Int} (h0 : 1 ≤ op) (h1 : op ≤ 17) (hN : N.length = partsN op) (hb : ∀ x ∈ N, 0 ≤ x ∧ x < 18446744073709551616) (hreg : regOk op N = true) :
    formedB (insOf op N) = true ∧ numL (insOf op N) = N ∧ 0 ≤ (insOf op N).n ∧ (insOf op N).n < 18446744073709551616 := by
  have hrn : (regsN op = 0 ∧ numB op = false) ∨ (regsN op = 0 ∧ numB op = true) ∨ (regsN op = 1 ∧ numB op = true) ∨ (regsN op = 2 ∧ numB op = false) ∨ (regsN op = 3 ∧ numB op = false) := by
    rcases op17 h0 h1 with rfl | rfl | rfl | rfl | rfl | rfl | rfl | rfl | rfl | rfl | rfl | rfl | rfl | rfl | rfl | rfl | rfl <;> decide
  rcases hrn with ⟨hr, hn⟩ | ⟨hr, hn⟩ | ⟨hr, hn⟩ | ⟨hr, hn⟩ | ⟨hr, hn⟩
  · obtain rfl : N = [] := by simpa [partsN, hr, hn] using hN
    simp [insOf, formedB, numL, num3, partsN, hr, hn, okR, h0, h1]
  · obtain ⟨x, rfl⟩ : ∃ x, N = [x] := List.length_eq_one_iff.1 (by simpa [partsN, hr, hn] using hN)
    have hx := hb x (by simp)
    simp [insOf, formedB, numL, num3, partsN, hr, hn, okR, h0, h1, hx]
  · obtain ⟨x, y, rfl⟩ := len_two (by simpa [partsN, hr, hn] using hN)
    have hx := hb x (by simp)
    have hy := hb y (by simp)
    simp [regOk, hr] at hreg
    simp [insOf, formedB, numL, num3, partsN, hr, hn, okR, h0, h1, hx, hy, hreg]
  · obtain ⟨x, y, rfl⟩ := len_two (by simpa [partsN, hr, hn] using hN)
    have hx := hb x (by simp)
    have hy := hb y (by simp)
    simp [regOk, hr] at hreg
    simp [insOf, formedB, numL, num3, partsN, hr, hn, okR, h0, h1, hx, hy, hreg]
  · obtain ⟨x, y, z, rfl⟩ := len_three (by simpa [partsN, hr, hn] using hN)
    have hx := hb x (by simp)
    have hy := hb y (by simp)
    have hz := hb z (by simp)
    simp [regOk, hr] at hreg
    simp [insOf, formedB, numL, num3, partsN, hr, hn, okR, h0, h1, hx, hy, hz, hreg]

/-- Text of Parse is the line. -/
theorem text_parse {l : List UInt8} {i : I5} (h : parseL l = some i) : formedB i = true ∧ textL i = l ∧ 0 ≤ i.n ∧ i.n < 18446744073709551616 := by
  unfold parseL at h
  split at h
  · cases h
  · rename_i hd ws hp
    split at h
    · cases h
    · rename_i op hop
      split at h
      · rename_i hlen
        split at h
        · cases h
        · rename_i N hN
          split at h
          · rename_i hreg
            have hi := Option.some.inj h
            obtain ⟨h1, h2, h3⟩ := namedN_forth hop
            obtain ⟨e1, e2⟩ := decAll_forth ws N hN
            have hl : N.length = partsN op := by rw [← hlen, e1]; simp
            obtain ⟨f1, f2, f3, f4⟩ := ins_forth (op := (op : Int)) (by omega) (by omega) hl e2 hreg
            rw [hi] at f1 f2 f3 f4
            refine ⟨f1, ?_, f3, f4⟩
            have ho : i.op = op := by rw [← hi]; rfl
            unfold textL
            rw [f2, ho, show ((op : Int)).toNat = op by simp, h3, pcs_join l hd ws hp, e1]
            simp [blanked, List.flatMap_map]
          · cases h
      · cases h

set_option maxRecDepth 100000 in
set_option maxHeartbeats 4000000 in
theorem parses_law (l : List UInt8) (hl : l.length ≤ 1048576) (w : World) (hw : Gl w) :
    Calls Tryd.prog 5 #[.string ⟨l.toArray⟩] w fun e w' => e = .returned (.bool true) ∧ Keeps (fun _ => False) w w' := by
  have PA := parse_any l (by omega) w hw
  have RP := rparse_any l hl
  unfold PPost at PA
  unfold RPost at RP
  cases hp : parseL l with
  | none =>
    rw [hp] at PA RP
    go_enter Tryd.func5, Tryd.ntmps5
    go_wp2_with fail
    refine PA.mono ?_
    rintro e w1 ⟨rfl, k1⟩
    have b1 := (MapKept.heap_alloc w1 (.cells #[.int .i64 0, .int .i64 0, .int .i64 0, .int .i64 0, .int .u64 0] 38)).1
    have kk1 := k1.alloc (.cells #[.int .i64 0, .int .i64 0, .int .i64 0, .int .i64 0, .int .u64 0] 38)
    go_wp2_with fail
    refine (RP _).mono ?_
    rintro e w2 ⟨rfl, k2⟩
    have b2 := (k2.block _ (lt_of_block b1) (fun f => f)).trans b1
    have b3 := ((MapKept.heap_alloc w2 (.cells #[.int .i64 0, .int .i64 0, .int .i64 0, .int .i64 0, .int .u64 0] 38)).2 _ (lt_of_block b2)).trans b2
    have kk2 := (kk1.trans k2).alloc (.cells #[.int .i64 0, .int .i64 0, .int .i64 0, .int .i64 0, .int .u64 0] 38)
    obtain ⟨c0, c1, c2, c3, c4⟩ := cells5 b3
    have W := works_any _ (hw.keeps kk2)
    clear PA RP b1 b2 b3 k1 k2 kk1
    go_wp2_with (first | (go_at_call 19; refine (num_any _ _).mono ?_; rintro e w' ⟨rfl, rfl⟩) | (go_at_call 15; refine W.mono ?_; rintro e w7 ⟨rfl, k7⟩))
    go_ret
    exact ⟨rfl, kk2.trans k7⟩
  | some i =>
    rw [hp] at PA RP
    obtain ⟨f1, f2, f3, f4⟩ := text_parse hp
    have TX := text_yes i f1 f3 f4
    rw [f2] at TX
    have hss : (ByteArray.toList ⟨l.toArray⟩ == l) = true := by simp
    obtain ⟨op, a, b, c, n⟩ := i
    clear f1 f2 f3 f4 hp
    dsimp only [I5.cells] at PA RP TX
    go_enter Tryd.func5, Tryd.ntmps5
    go_wp2_with fail
    refine PA.mono ?_
    rintro e w1 ⟨rfl, k1⟩
    have b1 := (MapKept.heap_alloc w1 (.cells #[.int .i64 op, .int .i64 a, .int .i64 b, .int .i64 c, .int .u64 n] 38)).1
    have kk1 := k1.alloc (.cells #[.int .i64 op, .int .i64 a, .int .i64 b, .int .i64 c, .int .u64 n] 38)
    go_wp2_with fail
    refine (RP _).mono ?_
    rintro e w2 ⟨rfl, k2⟩
    have b2 := (k2.block _ (lt_of_block b1) (fun f => f)).trans b1
    have b3 := ((MapKept.heap_alloc w2 (.cells #[.int .i64 op, .int .i64 a, .int .i64 b, .int .i64 c, .int .u64 n] 38)).2 _ (lt_of_block b2)).trans b2
    have kk2 := (kk1.trans k2).alloc (.cells #[.int .i64 op, .int .i64 a, .int .i64 b, .int .i64 c, .int .u64 n] 38)
    obtain ⟨c0, c1, c2, c3, c4⟩ := cells5 b3
    have TX2 := TX _ (hw.keeps kk2).nms
    clear PA RP b1 b2 b3 k1 k2 kk1 TX
    go_wp2_with (first | (go_at_call 19; refine (num_any _ _).mono ?_; rintro e w' ⟨rfl, rfl⟩))
    refine TX2.mono ?_
    rintro e w3 ⟨rfl, k3⟩
    have kk3 := kk2.trans k3
    have W := works_any _ (hw.keeps kk3)
    clear TX2 c0 c1 c2 c3 c4
    go_wp2_with (first | (go_at_call 19; refine (num_any _ _).mono ?_; rintro e w' ⟨rfl, rfl⟩) | (go_at_call 15; refine W.mono ?_; rintro e w7 ⟨rfl, k7⟩))
    go_ret
    exact ⟨rfl, kk3.trans k7⟩
end Go.Proofs.YtepigjbnpkpanaaDoor
