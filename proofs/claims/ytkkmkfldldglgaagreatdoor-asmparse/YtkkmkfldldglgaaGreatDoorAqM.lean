/-
  No statement of the seat is proved here. (Several texts in one: AsP, AsB, AsQ, AwH.)
-/
import Derived.Test.YtkkmkfldldglgaaGreatDoorCdJ
import Derived.Test.YtkkmkfldldglgaaGreatDoorAsA
import Derived.Lib.ItoaLen

/- Texts of instructions, there and back: pure facts. No statement of the seat is proved here. -/
namespace Go.Proofs.YtkkmkfldldglgaaGreatDoor
open Go.RowKit Go.Shelf

def regL (i : I5) : List Int := [i.a, i.b, i.c].take (regsN i.op)
theorem numL_eq {i : I5} (h : formedB i = true) : numL i = regL i ++ (if numB i.op then [i.n] else []) := by
  obtain ⟨⟨h0, h1⟩, -⟩ := formed_facts h
  obtain ⟨op, a, b, c, n⟩ := i
  dsimp only at h0 h1
  have hrn : (regsN op = 0 ∧ numB op = false) ∨ (regsN op = 0 ∧ numB op = true) ∨ (regsN op = 1 ∧ numB op = true) ∨ (regsN op = 2 ∧ numB op = false) ∨ (regsN op = 3 ∧ numB op = false) := by
    rcases op17 h0 h1 with rfl | rfl | rfl | rfl | rfl | rfl | rfl | rfl | rfl | rfl | rfl | rfl | rfl | rfl | rfl | rfl | rfl <;> decide
  unfold numL num3 regL partsN
  dsimp only
  rcases hrn with ⟨hr, hn⟩ | ⟨hr, hn⟩ | ⟨hr, hn⟩ | ⟨hr, hn⟩ | ⟨hr, hn⟩ <;> rw [hr, hn] <;> rfl

set_option maxRecDepth 100000 in
set_option maxHeartbeats 4000000 in
theorem pcs_word : ∀ x : List UInt8, (32 : UInt8) ∉ x → pcs x = [x]
  | [], _ => rfl
  | c :: t, h => by
    have h1 : ¬ c = 32 := fun e => h (by simp [e])
    have h2 := pcs_word t (fun e => h (by simp [e]))
    rw [pcs, if_neg h1, h2]
theorem pcs_blank : ∀ (x t : List UInt8), (32 : UInt8) ∉ x → pcs (x ++ 32 :: t) = x :: pcs t
  | [], t, _ => by simp [pcs]
  | c :: x, t, h => by
    have h1 : ¬ c = 32 := fun e => h (by simp [e])
    have h2 := pcs_blank x t (fun e => h (by simp [e]))
    rw [List.cons_append, pcs, if_neg h1, h2]
theorem dec_mem (n : Nat) : ∀ c ∈ Lib.decDigits n, 48 ≤ c.toNat ∧ c.toNat ≤ 57 := by
  induction n using Nat.strongRecOn with
  | ind n ih =>
    intro c hc
    by_cases h : n < 10
    · rw [Lib.decDigits, dif_pos h] at hc
      simp only [List.mem_singleton] at hc
      rw [hc, byte_of n h]; omega
    · rw [Lib.decDigits, dif_neg h] at hc
      rcases List.mem_append.1 hc with hc | hc
      · exact ih (n / 10) (by omega) c hc
      · simp only [List.mem_singleton] at hc
        rw [hc, byte_of (n % 10) (by omega)]; omega
theorem dec_noblank (n : Nat) : (32 : UInt8) ∉ Lib.decDigits n := fun h => by
  have := dec_mem n 32 h
  simp at this
theorem dec_ne (n : Nat) : Lib.decDigits n ≠ [] := by
  intro h
  have h1 := Lib.decDigits_length n
  have h2 := Lib.nDigits_pos n
  rw [h] at h1
  simp at h1
  omega
theorem pcs_text : ∀ (N : List Int) (x : List UInt8), (32 : UInt8) ∉ x → pcs (x ++ blanked N) = x :: N.map fun n => Lib.decDigits n.toNat
  | [], x, h => by simpa [blanked] using pcs_word x h
  | n :: N, x, h => by
    have e : x ++ blanked (n :: N) = x ++ 32 :: (Lib.decDigits n.toNat ++ blanked N) := by simp [blanked]
    rw [e, pcs_blank _ _ h, pcs_text N _ (dec_noblank _)]
    rfl

theorem decGo_snoc : ∀ (l : List UInt8) (b : Bool) (m : Nat) (c : UInt8), decGo b m (l ++ [c]) = (decGo b m l).bind fun n => decGo (b && l.isEmpty) n [c]
  | [], b, m, c => by simp [decGo]
  | x :: l, b, m, c => by
    rw [List.cons_append, decGo, decGo]
    split
    · rfl
    · split
      · rfl
      · rw [decGo_snoc l false _ c]
        simp
theorem dec_back (n : Nat) (hn : n < 18446744073709551616) : decGo true 0 (Lib.decDigits n) = some n := by
  induction n using Nat.strongRecOn with
  | ind n ih =>
    by_cases h : n < 10
    · rw [Lib.decDigits, dif_pos h, decGo, byte_of n h, if_neg (by simp; omega), if_neg (by omega), decGo]
      simp
    · rw [Lib.decDigits, dif_neg h, decGo_snoc, ih (n / 10) (by omega) (by omega), Option.bind_some]
      have he : (Lib.decDigits (n / 10)).isEmpty = false := by simpa using dec_ne (n / 10)
      rw [he, decGo, byte_of (n % 10) (by omega), if_neg (by simp; omega), if_neg (by omega), decGo]
      congr 1
      omega
theorem decL_back (n : Nat) (hn : n < 18446744073709551616) : decL (Lib.decDigits n) = some n := by
  unfold decL
  rw [if_neg (dec_ne n), dec_back n hn]
theorem decAll_back : ∀ N : List Int, (∀ x ∈ N, 0 ≤ x ∧ x < 18446744073709551616) → decAll (N.map fun n => Lib.decDigits n.toNat) = some N
  | [], _ => rfl
  | n :: N, h => by
    have h1 := h n (by simp)
    have h2 := decAll_back N (fun x hx => h x (by simp [hx]))
    rw [List.map_cons, decAll, decL_back n.toNat (by omega)]
    dsimp only
    rw [h2]
    simp
    omega

theorem ins_back {i : I5} (h : formedB i = true) : (numL i).length = partsN i.op ∧ regOk i.op (numL i) = true ∧ insOf i.op (numL i) = i := by
  have HL := numL_eq h
  have hf := formed_facts h
  unfold formedB at h
  simp only [Bool.and_eq_true, decide_eq_true_eq, Bool.or_eq_true] at h
  obtain ⟨⟨⟨⟨h1, h2⟩, h3⟩, h4⟩, h5⟩ := h
  replace h3 := okR_yes h3
  replace h4 := okR_yes h4
  replace h5 := okR_yes h5
  obtain ⟨op, a, b, c, n⟩ := i
  dsimp only at *
  have hrn : (regsN op = 0 ∧ numB op = false) ∨ (regsN op = 0 ∧ numB op = true) ∨ (regsN op = 1 ∧ numB op = true) ∨ (regsN op = 2 ∧ numB op = false) ∨ (regsN op = 3 ∧ numB op = false) := by
    rcases op17 h1.1 h1.2 with rfl | rfl | rfl | rfl | rfl | rfl | rfl | rfl | rfl | rfl | rfl | rfl | rfl | rfl | rfl | rfl | rfl <;> decide
  have hn0 := hf.2.1
  rw [HL]
  unfold regL partsN regOk insOf
  dsimp only
  rcases hrn with ⟨hr, hn⟩ | ⟨hr, hn⟩ | ⟨hr, hn⟩ | ⟨hr, hn⟩ | ⟨hr, hn⟩ <;> rw [hr] at h3 h4 h5 <;> rw [hr, hn]
  · obtain rfl : a = 0 := by omega
    obtain rfl : b = 0 := by omega
    obtain rfl : c = 0 := by omega
    obtain rfl : n = 0 := hn0 hn
    exact ⟨rfl, rfl, rfl⟩
  · obtain rfl : a = 0 := by omega
    obtain rfl : b = 0 := by omega
    obtain rfl : c = 0 := by omega
    exact ⟨rfl, rfl, rfl⟩
  · obtain rfl : b = 0 := by omega
    obtain rfl : c = 0 := by omega
    exact ⟨rfl, by simp; omega, rfl⟩
  · obtain rfl : c = 0 := by omega
    obtain rfl : n = 0 := hn0 hn
    exact ⟨rfl, by simp; omega, rfl⟩
  · obtain rfl : n = 0 := hn0 hn
    exact ⟨rfl, by simp; omega, rfl⟩

theorem nms_noblank : ∀ k : Fin 18, (32 : UInt8) ∉ (nms[k.val]?).getD [] := by decide

/-- Parse of Text is the instruction. -/
theorem parse_text {i : I5} (h : formedB i = true) (hn0 : 0 ≤ i.n) (hn : i.n < 18446744073709551616) : parseL (textL i) = some i := by
  obtain ⟨⟨h0, h1⟩, -⟩ := formed_facts h
  obtain ⟨b1, b2, b3⟩ := ins_back h
  have hN : ∀ x ∈ numL i, 0 ≤ x ∧ x < 18446744073709551616 := fun x hx => num3_bound h hn0 hn x (List.mem_of_mem_take hx)
  unfold parseL textL
  rw [pcs_text _ _ (nms_noblank ⟨i.op.toNat, by omega⟩)]
  dsimp only
  rw [namedN_yes (k := i.op.toNat) (by omega) (by omega) rfl]
  dsimp only
  rw [show ((i.op.toNat : Nat) : Int) = i.op by omega, if_pos (by simpa using b1), decAll_back _ hN]
  dsimp only
  rw [if_pos b2, b3]
theorem pcs_join : ∀ (l h : List UInt8) (ws : List (List UInt8)), pcs l = h :: ws → l = h ++ ws.flatMap fun x => 32 :: x
  | [], h, ws, e => by simp [pcs] at e; obtain ⟨rfl, rfl⟩ := e; rfl
  | c :: t, h, ws, e => by
    unfold pcs at e
    split at e
    · rename_i hc
      simp at e
      obtain ⟨rfl, e⟩ := e
      obtain ⟨h', ws', hp⟩ : ∃ h ws, pcs t = h :: ws := by
        cases hq : pcs t with
        | nil => exact absurd hq (pcs_ne t)
        | cons h ws => exact ⟨h, ws, rfl⟩
      have := pcs_join t h' ws' hp
      rw [hp] at e
      rw [← e, hc, this]
      simp
    · split at e
      · rename_i a b hq
        simp at e
        obtain ⟨rfl, rfl⟩ := e
        have := pcs_join t a _ hq
        rw [List.cons_append, ← this]
      · rename_i hq
        exact absurd hq (pcs_ne t)

theorem dec_forth : ∀ (k : Nat) (x : List UInt8) (n : Nat), x.length = k → x ≠ [] → decGo true 0 x = some n → x = Lib.decDigits n := by
  intro k
  induction k with
  | zero => intro x n h1 h2; exact absurd (List.length_eq_zero_iff.1 h1) h2
  | succ k ih =>
    intro x n h1 h2 h3
    obtain ⟨y, c, rfl⟩ : ∃ y c, x = y ++ [c] := ⟨x.dropLast, x.getLast h2, (List.dropLast_concat_getLast h2).symm⟩
    rw [decGo_snoc] at h3
    obtain ⟨m, hm, h4⟩ := Option.bind_eq_some_iff.1 h3
    rw [decGo] at h4
    split at h4
    · cases h4
    · rename_i hc
      split at h4
      · cases h4
      · rename_i hb
        rw [decGo] at h4
        have hn : m * 10 + (c.toNat - 48) = n := Option.some.inj h4
        have hcc : c = UInt8.ofNat (48 + (c.toNat - 48)) := by
          apply UInt8.toNat.inj
          rw [byte_of (c.toNat - 48) (by omega)]
          omega
        by_cases hy : y = []
        · subst hy
          simp [decGo] at hm
          subst hm
          rw [Lib.decDigits, dif_pos (by omega), ← hn]
          simpa using hcc
        · have hye : y.isEmpty = false := by simpa using hy
          rw [hye] at hc
          have hm0 : m ≠ 0 := fun e => hc (.inr (.inr ⟨rfl, e⟩))
          have := ih y m (by simpa using h1) hy hm
          rw [Lib.decDigits, dif_neg (by omega), show n / 10 = m by omega, ← this, show n % 10 = c.toNat - 48 by omega, ← hcc]
theorem decL_forth {x : List UInt8} {n : Nat} (h : decL x = some n) : x = Lib.decDigits n := by
  unfold decL at h
  split at h
  · cases h
  · rename_i hne
    exact dec_forth _ x n rfl hne h
theorem decAll_forth : ∀ (ws : List (List UInt8)) (N : List Int), decAll ws = some N → ws = N.map (fun n => Lib.decDigits n.toNat) ∧ ∀ x ∈ N, 0 ≤ x ∧ x < 18446744073709551616
  | [], N, h => by simp [decAll] at h; subst h; exact ⟨rfl, by simp⟩
  | y :: t, N, h => by
    rw [decAll] at h
    split at h
    · cases h
    · rename_i m hm
      obtain ⟨R, hR, rfl⟩ := Option.map_eq_some_iff.1 h
      obtain ⟨h1, h2⟩ := decAll_forth t R hR
      have hl := decL_lt hm
      refine ⟨?_, ?_⟩
      · rw [List.map_cons, ← h1, ← decL_forth (n := (m : Int).toNat) (by simpa using hm)]
      · intro x hx
        rcases List.mem_cons.1 hx with rfl | hx
        · omega
        · exact h2 x hx
theorem namedN_forth {h : List UInt8} {k : Nat} (e : namedN h = some k) : 1 ≤ k ∧ k ≤ 17 ∧ (nms[k]?).getD [] = h := by
  have h1 := List.find?_some e
  have h2 := List.mem_of_find?_eq_some e
  simp only [Bool.and_eq_true, decide_eq_true_eq, beq_iff_eq] at h1
  have : k < 18 := by simpa using h2
  exact ⟨h1.1, by omega, h1.2⟩

theorem ins_forth {op : Int} {N : List Int} (h0 : 1 ≤ op) (h1 : op ≤ 17) (hN : N.length = partsN op) (hb : ∀ x ∈ N, 0 ≤ x ∧ x < 18446744073709551616) (hreg : regOk op N = true) :
    formedB (insOf op N) = true ∧ numL (insOf op N) = N ∧ 0 ≤ (insOf op N).n ∧ (insOf op N).n < 18446744073709551616 := by
  have hrn : (regsN op = 0 ∧ numB op = false) ∨ (regsN op = 0 ∧ numB op = true) ∨ (regsN op = 1 ∧ numB op = true) ∨ (regsN op = 2 ∧ numB op = false) ∨ (regsN op = 3 ∧ numB op = false) := by
    rcases op17 h0 h1 with rfl | rfl | rfl | rfl | rfl | rfl | rfl | rfl | rfl | rfl | rfl | rfl | rfl | rfl | rfl | rfl | rfl <;> decide
  rcases hrn with ⟨hr, hn⟩ | ⟨hr, hn⟩ | ⟨hr, hn⟩ | ⟨hr, hn⟩ | ⟨hr, hn⟩
  · obtain rfl : N = [] := by simpa [partsN, hr, hn] using hN
    simp [insOf, formedB, numL, num3, partsN, hr, hn, okR, h0, h1]
  · obtain ⟨x, rfl⟩ : ∃ x, N = [x] := List.length_eq_one_iff.1 (by simpa [partsN, hr, hn] using hN)
    have hx := hb x (by simp)
    simp [insOf, formedB, numL, num3, partsN, hr, hn, okR, h0, h1, hx]
  · obtain ⟨x, y, rfl⟩ := len_two (by simpa [partsN, hr, hn] using hN)
    have hx := hb x (by simp)
    have hy := hb y (by simp)
    simp [regOk, hr] at hreg
    simp [insOf, formedB, numL, num3, partsN, hr, hn, okR, h0, h1, hx, hy, hreg]
  · obtain ⟨x, y, rfl⟩ := len_two (by simpa [partsN, hr, hn] using hN)
    have hx := hb x (by simp)
    have hy := hb y (by simp)
    simp [regOk, hr] at hreg
    simp [insOf, formedB, numL, num3, partsN, hr, hn, okR, h0, h1, hx, hy, hreg]
  · obtain ⟨x, y, z, rfl⟩ := len_three (by simpa [partsN, hr, hn] using hN)
    have hx := hb x (by simp)
    have hy := hb y (by simp)
    have hz := hb z (by simp)
    simp [regOk, hr] at hreg
    simp [insOf, formedB, numL, num3, partsN, hr, hn, okR, h0, h1, hx, hy, hz, hreg]

/-- Text of Parse is the line. -/
theorem text_parse {l : List UInt8} {i : I5} (h : parseL l = some i) : formedB i = true ∧ textL i = l ∧ 0 ≤ i.n ∧ i.n < 18446744073709551616 := by
  unfold parseL at h
  split at h
  · cases h
  · rename_i hd ws hp
    split at h
    · cases h
    · rename_i op hop
      split at h
      · rename_i hlen
        split at h
        · cases h
        · rename_i N hN
          split at h
          · rename_i hreg
            have hi := Option.some.inj h
            obtain ⟨h1, h2, h3⟩ := namedN_forth hop
            obtain ⟨e1, e2⟩ := decAll_forth ws N hN
            have hl : N.length = partsN op := by rw [← hlen, e1]; simp
            obtain ⟨f1, f2, f3, f4⟩ := ins_forth (op := (op : Int)) (by omega) (by omega) hl e2 hreg
            rw [hi] at f1 f2 f3 f4
            refine ⟨f1, ?_, f3, f4⟩
            have ho : i.op = op := by rw [← hi]; rfl
            unfold textL
            rw [f2, ho, show ((op : Int)).toNat = op by simp, h3, pcs_join l hd ws hp, e1]
            simp [blanked, List.flatMap_map]
          · cases h
      · cases h

theorem text_len {i : I5} (h : formedB i = true) (hn0 : 0 ≤ i.n) (hn : i.n < 18446744073709551616) : (textL i).length ≤ 73 := by
  obtain ⟨⟨h0, h1⟩, -⟩ := formed_facts h
  have hN : ∀ x ∈ numL i, 0 ≤ x ∧ x < 18446744073709551616 := fun x hx => num3_bound h hn0 hn x (List.mem_of_mem_take hx)
  have hnm : ((nms[i.op.toNat]?).getD []).length ≤ 10 := by
    have : ∀ l ∈ nms, l.length ≤ 10 := by decide
    cases h : nms[i.op.toNat]? with
    | none => simp
    | some l => exact this l (List.mem_of_getElem? h)
  have hb : ∀ N : List Int, (∀ x ∈ N, 0 ≤ x ∧ x < 18446744073709551616) → (blanked N).length ≤ 21 * N.length := by
    intro N
    induction N with
    | nil => simp [blanked]
    | cons n N ih =>
      intro hN
      have h1 := ih (fun x hx => hN x (by simp [hx]))
      have h2 := hN n (by simp)
      have h3 : (Lib.decDigits n.toNat).length ≤ 20 := by rw [Lib.decDigits_length]; exact Lib.nDigits_le20 _ (by omega)
      have e : blanked (n :: N) = 32 :: Lib.decDigits n.toNat ++ blanked N := by simp [blanked]
      rw [e]
      simp only [List.cons_append, List.length_cons, List.length_append]
      omega
  have h4 := hb _ hN
  have h5 : (numL i).length ≤ 3 := by unfold numL; rw [List.length_take, num3_length]; omega
  unfold textL
  rw [List.length_append]
  omega
end Go.Proofs.YtkkmkfldldglgaaGreatDoor


/- The program's way to read a program's text, as functions. No statement of the seat is proved here. -/
namespace Go.Proofs.YtkkmkfldldglgaaGreatDoor
open Go.RowKit Go.Shelf

def lowB (c : UInt8) : Bool := decide (97 ≤ c.toNat ∧ c.toNat ≤ 122)
def digB (c : UInt8) : Bool := decide (48 ≤ c.toNat ∧ c.toNat ≤ 57)
def signB (c : UInt8) : Bool := lowB c || digB c || c == 95
/-- May it be a label? -/
def labB (l : List UInt8) : Bool := decide (1 ≤ l.length ∧ l.length ≤ 64) && ((l.head?).map lowB).getD false && l.all signB && (namedN l).isNone

/-- The instruction of words. -/
def parseW : List (List UInt8) → Option I5
  | [] => none
  | h :: ws => match namedN h with
    | none => none
    | some op => if ws.length = partsN op then match decAll ws with
        | none => none
        | some N => if regOk op N then some (insOf op N) else none
      else none
theorem parseL_eq (l : List UInt8) : parseL l = parseW (pcs l) := by
  unfold parseL parseW
  cases pcs l <;> rfl
def joinB : List (List UInt8) → List UInt8
  | [] => []
  | h :: t => h ++ t.flatMap fun x => 32 :: x
theorem pcs_joinB : ∀ ws : List (List UInt8), ws ≠ [] → (∀ x ∈ ws, (32 : UInt8) ∉ x) → pcs (joinB ws) = ws
  | [x], _, h => by simp [joinB]; exact pcs_word x (h x (by simp))
  | x :: y :: t, _, h => by
    have := pcs_joinB (y :: t) (by simp) (fun z hz => h z (by simp [hz]))
    have e : joinB (x :: y :: t) = x ++ 32 :: joinB (y :: t) := by simp [joinB]
    rw [e, pcs_blank _ _ (h x (by simp)), this]
theorem parse_joinB {ws : List (List UInt8)} (hne : ws ≠ []) (h : ∀ x ∈ ws, (32 : UInt8) ∉ x) : parseL (joinB ws) = parseW ws := by
  rw [parseL_eq, pcs_joinB ws hne h]
theorem parseW_facts {ws : List (List UInt8)} {i : I5} (h : parseW ws = some i) (hb : ∀ x ∈ ws, (32 : UInt8) ∉ x) : formedB i = true ∧ textL i = joinB ws ∧ 0 ≤ i.n ∧ i.n < 18446744073709551616 := by
  have hne : ws ≠ [] := by rintro rfl; simp [parseW] at h
  rw [← parse_joinB hne hb] at h
  exact text_parse h

/-- Which part of an instruction, by its operation's name, is a target. -/
def tpart (h : List UInt8) : Option Nat := match namedN h with
  | none => none
  | some k => if tgtB k then some (regsN k + 1) else none
/-- The words in which 0 stands in the place of a label. -/
def lastW (ws : List (List UInt8)) : List UInt8 := (ws.getLast?).getD []
def usesB (ws : List (List UInt8)) : Bool := decide (tpart ((ws.head?).getD []) = some (ws.length - 1)) && labB (lastW ws)
def zeroed (ws : List (List UInt8)) : List (List UInt8) := if usesB ws then ws.set (ws.length - 1) [48] else ws

/-- What has been read. -/
structure Rd where
  code : List I5
  labs : List (List UInt8 × Nat)
  uses : List (List UInt8 × Nat × Nat)
def standR (r : Rd) (name : List UInt8) : Option Rd := if labB name = true ∧ name ∉ r.labs.map (·.1) then some { r with labs := r.labs ++ [(name, r.code.length)] } else none
def useR (r : Rd) (ws : List (List UInt8)) (n : Nat) : List (List UInt8 × Nat × Nat) := if usesB ws then r.uses ++ [(lastW ws, r.code.length, n)] else r.uses
def insR (r : Rd) (ws : List (List UInt8)) (n : Nat) : Option Rd := (parseW (zeroed ws)).map fun i => { code := r.code ++ [i], labs := r.labs, uses := useR r ws n }
/-- A line's words. -/
def lineR (r : Rd) (n : Nat) : List (List UInt8) → Option Rd
  | [] => some r
  | t :: T => if t.getLast? = some 58 then (standR r t.dropLast).bind fun r' => lineR r' n T else insR r (t :: T) n
/-- What of a line is read: neither its byte 10 nor its remark. -/
def bodyL (l : List UInt8) : List UInt8 := (if l.getLast? = some 10 then l.dropLast else l).takeWhile (fun c => c != 59)
/-- All lines; or the number of the first that is none. -/
def readR (r : Rd) (n : Nat) : List (List UInt8) → Nat × Option Rd
  | [] => (n, some r)
  | l :: ls => match lineR r n (toks (bodyL l)) with
    | none => (n, none)
    | some r' => readR r' (n + 1) ls
def setN (code : List I5) (at_ : Nat) (p : Nat) : List I5 := code.modify at_ fun i => { i with n := p }
/-- Labels put in the place of targets. -/
def resR (labs : List (List UInt8 × Nat)) (code : List I5) : List (List UInt8 × Nat × Nat) → Option Nat × List I5
  | [] => (none, code)
  | (name, at_, line) :: us => match labs.lookup name with
    | none => (some line, code)
    | some p => resR labs (setN code at_ p) us
/-- The program, its labels, how many lines; or the line. -/
def readT (l : List UInt8) : Nat × Option (List I5 × List (List UInt8 × Nat)) := match readR ⟨[], [], []⟩ 0 (linesL l) with
  | (n, none) => (n, none)
  | (n, some r) => match resR r.labs r.code r.uses with
    | (some line, _) => (line, none)
    | (none, code) => (n, some (code, r.labs))
end Go.Proofs.YtkkmkfldldglgaaGreatDoor


/- A line read colon by colon, as the document's answer reads it, is the line read word by word. No statement of the seat is proved here. -/
namespace Go.Proofs.YtkkmkfldldglgaaGreatDoor
open Go.RowKit Go.Shelf

theorem wordOf_app : ∀ l : List UInt8, (wordOf l).1 ++ (wordOf l).2 = l
  | [] => rfl
  | c :: t => by
    have := wordOf_app t
    unfold wordOf
    split
    · rename_i h; simp [h]
    · split
      · simp
      · simp [this]
theorem dropWhile_head (p : UInt8 → Bool) : ∀ (l : List UInt8) (c : UInt8) (t : List UInt8), l.dropWhile p = c :: t → p c = false
  | [], c, t, h => by simp at h
  | d :: l, c, t, h => by
    rw [List.dropWhile_cons] at h
    split at h
    · exact dropWhile_head p l c t h
    · rename_i hd; cases h; simpa using hd
theorem wordOf_ne {c : UInt8} (t : List UInt8) (h : blk c = false) : (wordOf (c :: t)).1 ≠ [] := by
  unfold wordOf
  split
  · simp
  · rw [if_neg (by simp [h])]; simp
theorem nextW_nil {l : List UInt8} (h : (nextW l).1 = []) : l.dropWhile blk = [] := by
  cases hd : l.dropWhile blk with
  | nil => rfl
  | cons c t =>
    unfold nextW at h
    rw [hd] at h
    exact absurd h (wordOf_ne t (dropWhile_head _ _ _ _ hd))
theorem mem_dropWhile {x : UInt8} (hx : blk x = false) : ∀ l : List UInt8, x ∈ l → x ∈ l.dropWhile blk
  | c :: t, h => by
    rw [List.dropWhile_cons]
    split
    · rename_i hc
      rcases List.mem_cons.1 h with rfl | h
      · rw [hx] at hc; cases hc
      · exact mem_dropWhile hx t h
    · exact h
/-- A byte that is no blank stands in one of the words. -/
theorem toks_mem {x : UInt8} (hx : blk x = false) (l : List UInt8) (h : x ∈ l) : ∃ t ∈ toks l, x ∈ t := by
  have hm := mem_dropWhile hx l h
  have hne : (nextW l).1 ≠ [] := fun e => by rw [nextW_nil e] at hm; simp at hm
  rw [toks_cons hne]
  have ha : (nextW l).1 ++ (nextW l).2 = l.dropWhile blk := wordOf_app _
  rw [← ha] at hm
  rcases List.mem_append.1 hm with hm | hm
  · exact ⟨_, by simp, hm⟩
  · have := nextW_len l
    have := List.length_pos_iff.2 hne
    obtain ⟨t, h1, h2⟩ := toks_mem hx _ hm
    exact ⟨t, by simp [h1], h2⟩
termination_by l.length

theorem nms_nocolon : ∀ k : Fin 18, (58 : UInt8) ∉ (nms[k.val]?).getD [] := by decide
theorem decGo_mem : ∀ (l : List UInt8) (b : Bool) (n m : Nat), decGo b n l = some m → ∀ c ∈ l, 48 ≤ c.toNat ∧ c.toNat ≤ 57
  | [], _, _, _, _, c, h => by simp at h
  | d :: t, b, n, m, h, c, hc => by
    rw [decGo] at h
    split at h
    · cases h
    · rename_i h1
      split at h
      · cases h
      · rcases List.mem_cons.1 hc with rfl | hc
        · omega
        · exact decGo_mem t _ _ _ h c hc
theorem decL_mem {l : List UInt8} {m : Nat} (h : decL l = some m) : ∀ c ∈ l, 48 ≤ c.toNat ∧ c.toNat ≤ 57 := by
  unfold decL at h
  split at h
  · cases h
  · exact decGo_mem l _ _ _ h
theorem signB_blk {c : UInt8} (h : signB c = true) : blk c = false ∧ c ≠ 58 := by
  refine ⟨?_, ?_⟩
  · cases hb : blk c with
    | false => rfl
    | true =>
      simp only [blk, Bool.or_eq_true, beq_iff_eq] at hb
      rcases hb with rfl | rfl <;> exact absurd h (by decide)
  · rintro rfl; exact absurd h (by decide)
theorem labB_sign {l : List UInt8} (h : labB l = true) : ∀ c ∈ l, signB c = true := by
  simp only [labB, Bool.and_eq_true, List.all_eq_true] at h
  exact h.1.2
theorem labB_ne {l : List UInt8} (h : labB l = true) : l ≠ [] := by
  rintro rfl; simp [labB] at h

/-- A part with a colon behind an operation: there is no instruction. -/
theorem parseW_colon {h : List UInt8} {ws : List (List UInt8)} {t : List UInt8} (ht : t ∈ ws) (hc : (58 : UInt8) ∈ t) : parseW (h :: ws) = none := by
  have hd : decAll ws = none := by
    refine decAll_none ws t ht ?_
    cases hd : decL t with
    | none => rfl
    | some m => have := decL_mem hd 58 hc; simp at this
  simp only [parseW, hd]
  split
  · rfl
  · split <;> rfl
theorem zeroed_mem {h : List UInt8} {ws : List (List UInt8)} {t : List UInt8} (ht : t ∈ ws) (hc : (58 : UInt8) ∈ t) : ∃ ws', zeroed (h :: ws) = h :: ws' ∧ t ∈ ws' := by
  unfold zeroed
  split
  · rename_i hu
    simp only [usesB, Bool.and_eq_true] at hu
    have hl := labB_sign hu.2
    have hne : ws ≠ [] := by rintro rfl; simp at ht
    have hlast : lastW (h :: ws) = ws.getLast hne := by
      unfold lastW
      rw [List.getLast?_cons, List.getLast?_eq_some_getLast hne]; rfl
    obtain ⟨k, hk, he⟩ := List.getElem_of_mem ht
    have hkl : k ≠ ws.length - 1 := by
      rintro rfl
      rw [← List.getLast_eq_getElem hne, ← hlast] at he
      have := (signB_blk (hl 58 (by rw [he]; exact hc))).2
      exact this rfl
    have hpos := List.length_pos_iff.2 hne
    refine ⟨ws.set (ws.length - 1) [48], ?_, ?_⟩
    · rw [show (h :: ws).length - 1 = (ws.length - 1) + 1 by simp; omega, List.set_cons_succ]
    · rw [← he]
      have : (ws.set (ws.length - 1) [48])[k]'(by simpa using hk) = ws[k] := List.getElem_set_ne (Ne.symm hkl) _
      rw [← this]
      exact List.getElem_mem _
  · exact ⟨ws, rfl, ht⟩
theorem insR_colon {r : Rd} {n : Nat} {h : List UInt8} {ws : List (List UInt8)} {t : List UInt8} (ht : t ∈ ws) (hc : (58 : UInt8) ∈ t) : insR r (h :: ws) n = none := by
  obtain ⟨ws', h1, h2⟩ := zeroed_mem (h := h) ht hc
  unfold insR
  rw [h1, parseW_colon h2 hc]; rfl

/-- Words between blanks. -/
def bparts : List UInt8 → List UInt8 → List (List UInt8)
  | word, [] => if word = [] then [] else [word]
  | word, c :: t => if blk c then (if word = [] then bparts [] t else word :: bparts [] t) else bparts (word ++ [c]) t
theorem wordOf_word : ∀ (x t : List UInt8), (∀ c ∈ x, brk c = false) → wordOf (x ++ t) = (x ++ (wordOf t).1, (wordOf t).2)
  | [], t, _ => rfl
  | c :: x, t, h => by
    have hc := h c (by simp)
    simp only [brk, Bool.or_eq_false_iff, beq_eq_false_iff_ne] at hc
    have := wordOf_word x t (fun d hd => h d (by simp [hd]))
    rw [List.cons_append, wordOf, if_neg hc.2, if_neg (by simp [hc.1]), this]
    rfl
theorem toks_next {l l' : List UInt8} (h : nextW l = nextW l') : toks l = toks l' := by
  by_cases hn : (nextW l).1 = []
  · rw [toks_nil hn, toks_nil (by rw [← h]; exact hn)]
  · rw [toks_cons hn, toks_cons (l := l') (by rw [← h]; exact hn), h]
/-- Without a colon the words are those between blanks. -/
theorem toks_bparts : ∀ (t word : List UInt8), (∀ c ∈ word, brk c = false) → (58 : UInt8) ∉ t → bparts word t = toks (word ++ t)
  | [], word, hw, _ => by
    rw [bparts, List.append_nil]
    split
    · rename_i h; subst h; rw [toks_nil (by rfl)]
    · rename_i h
      have e : nextW word = (word, []) := by
        unfold nextW
        have hd : word.dropWhile blk = word := by
          cases word with
          | nil => rfl
          | cons c x =>
            have := hw c (by simp)
            simp only [brk, Bool.or_eq_false_iff] at this
            rw [List.dropWhile_cons, if_neg (by simp [this.1])]
        rw [hd]; exact wordOf_no word hw
      rw [toks_cons (by rw [e]; exact h), e, toks_nil (by rfl)]
  | c :: t, word, hw, hn => by
    have hn' : (58 : UInt8) ∉ t := fun h => hn (by simp [h])
    have hc58 : c ≠ 58 := fun h => hn (by simp [h])
    rw [bparts]
    split
    · rename_i hb
      have ih := toks_bparts t [] (by simp) hn'
      simp only [List.nil_append] at ih
      split
      · rename_i h; subst h
        rw [ih, List.nil_append]
        exact toks_next (by unfold nextW; rw [List.dropWhile_cons, if_pos hb])
      · rename_i h
        have e : nextW (word ++ c :: t) = (word, c :: t) := by
          unfold nextW
          have hd : (word ++ c :: t).dropWhile blk = word ++ c :: t := by
            cases word with
            | nil => exact absurd rfl h
            | cons d x =>
              have := hw d (by simp)
              simp only [brk, Bool.or_eq_false_iff] at this
              rw [List.cons_append, List.dropWhile_cons, if_neg (by simp [this.1])]
          rw [hd, wordOf_word word _ hw, wordOf, if_neg hc58, if_pos hb, List.append_nil]
        rw [toks_cons (by rw [e]; exact h), e, ih]
        congr 1
        exact toks_next (by unfold nextW; rw [List.dropWhile_cons, if_pos hb])
    · rename_i hb
      have ih := toks_bparts t (word ++ [c]) (fun d hd => by
        rcases List.mem_append.1 hd with hd | hd
        · exact hw d hd
        · simp only [List.mem_singleton] at hd; subst hd; simp [brk, hb, hc58]) hn'
      rw [ih, List.append_assoc]; rfl

/-- A line, colon by colon: first the labels. -/
def colR (r : Rd) (n : Nat) (s : List UInt8) : Option Rd :=
  if h : s.idxOf 58 < s.length then
    (standR r ((s.take (s.idxOf 58)).dropWhile blk)).bind fun r' => have _ := h; colR r' n (s.drop (s.idxOf 58 + 1))
  else if bparts [] s = [] then some r else insR r (bparts [] s) n
termination_by s.length
decreasing_by simp; omega

theorem no58 {s : List UInt8} (h : ¬ s.idxOf 58 < s.length) : (58 : UInt8) ∉ s := fun hm => h (List.idxOf_lt_length_of_mem hm)
theorem take58 {s : List UInt8} : (58 : UInt8) ∉ s.take (s.idxOf 58) := by
  intro hm
  obtain ⟨k, hk, he⟩ := List.getElem_of_mem hm
  simp only [List.length_take] at hk
  rw [List.getElem_take] at he
  have hlt : k < s.findIdx (fun x => x == (58 : UInt8)) := by
    have : s.idxOf 58 = s.findIdx (fun x => x == (58 : UInt8)) := rfl
    omega
  have := List.not_of_lt_findIdx hlt
  simp [he] at this
theorem at58 {s : List UInt8} (h : s.idxOf 58 < s.length) : s[s.idxOf 58] = 58 := List.getElem_idxOf h
theorem split58 {s : List UInt8} (h : s.idxOf 58 < s.length) : s = s.take (s.idxOf 58) ++ 58 :: s.drop (s.idxOf 58 + 1) := by
  conv => lhs; rw [← List.take_append_drop (s.idxOf 58) s, List.drop_eq_getElem_cons h, at58 h]
theorem dropWhile_app {a b : List UInt8} : ∀ l : List UInt8, l.dropWhile blk = a → a ≠ [] → (l ++ b).dropWhile blk = a ++ b
  | [], h, hne => by simp at h; exact absurd h hne
  | c :: t, h, hne => by
    rw [List.dropWhile_cons] at h
    rw [List.cons_append, List.dropWhile_cons]
    split
    · rename_i hc; rw [if_pos hc] at h; exact dropWhile_app t h hne
    · rename_i hc; rw [if_neg hc] at h; rw [← h]; rfl
theorem dropWhile_app_nil {b : List UInt8} : ∀ l : List UInt8, l.dropWhile blk = [] → (l ++ b).dropWhile blk = b.dropWhile blk
  | [], _ => rfl
  | c :: t, h => by
    rw [List.dropWhile_cons] at h
    rw [List.cons_append, List.dropWhile_cons]
    split
    · rename_i hc; rw [if_pos hc] at h; exact dropWhile_app_nil t h
    · rename_i hc; rw [if_neg hc] at h; cases h

theorem colR_eq (r : Rd) (n : Nat) (s : List UInt8) : colR r n s = lineR r n (toks s) := by
  rw [colR]
  by_cases h : s.idxOf 58 < s.length
  · rw [dif_pos h]
    have hs := split58 h
    have hno := take58 (s := s)
    have hlen : (s.drop (s.idxOf 58 + 1)).length < s.length := by simp; omega
    have ih := fun r' => colR_eq r' n (s.drop (s.idxOf 58 + 1))
    generalize s.take (s.idxOf 58) = a at hs hno ⊢
    generalize s.drop (s.idxOf 58 + 1) = b at hs hlen ih ⊢
    generalize hname : a.dropWhile blk = name
    have hn58 : (58 : UInt8) ∉ name := fun hm => hno (by
      have := (List.dropWhile_sublist (l := a) blk).subset
      rw [hname] at this; exact this hm)
    by_cases hbl : ∀ c ∈ name, blk c = false
    · have e : nextW s = (name ++ [58], b) := by
        unfold nextW
        have hd : s.dropWhile blk = name ++ 58 :: b := by
          rw [hs]
          by_cases hne : name = []
          · subst hne; rw [dropWhile_app_nil a hname]; rfl
          · exact dropWhile_app a hname hne
        rw [hd, wordOf_word name _ (fun c hc => by simp [brk, hbl c hc]; rintro rfl; exact hn58 hc), wordOf, if_pos rfl]
      rw [toks_cons (by rw [e]; simp), e]
      simp only [lineR, List.getLast?_append, List.getLast?_singleton, Option.some_or, if_pos, List.dropLast_concat]
      cases standR r name with
      | none => rfl
      | some r' => exact ih r'
    · have hlab : labB name = false := by
        cases hl : labB name with
        | false => rfl
        | true => exact absurd (fun c hc => (signB_blk (labB_sign hl c hc)).1) hbl
      have h1 : standR r name = none := by unfold standR; rw [if_neg (by simp [hlab])]
      rw [h1]
      have hne : name ≠ [] := by rintro rfl; exact hbl (by simp)
      have hd : s.dropWhile blk = name ++ 58 :: b := by rw [hs]; exact dropWhile_app a hname hne
      obtain ⟨c0, t0, rfl⟩ : ∃ c t, name = c :: t := by
        cases name with
        | nil => exact absurd rfl hne
        | cons c t => exact ⟨c, t, rfl⟩
      have hc0 : blk c0 = false := dropWhile_head _ _ _ _ hname
      have hw : (nextW s).1 ≠ [] := by unfold nextW; rw [hd]; exact wordOf_ne _ hc0
      -- the word ends ahead of the blank
      obtain ⟨i, hi, hib, hmin⟩ : ∃ i, ∃ hi : i < (c0 :: t0).length, blk ((c0 :: t0)[i]) = true ∧ ∀ j (hj : j < i), blk ((c0 :: t0)[j]'(by omega)) = false := by
        have hex : ∃ c ∈ (c0 :: t0), blk c = true := by
          by_cases hh : ∃ c ∈ (c0 :: t0), blk c = true
          · exact hh
          · refine absurd (fun c hc => ?_) hbl
            cases hq : blk c with
            | false => rfl
            | true => exact absurd ⟨c, hc, hq⟩ hh
        refine ⟨(c0 :: t0).findIdx blk, List.findIdx_lt_length_of_exists hex, List.findIdx_getElem, fun j hj => ?_⟩
        have := List.not_of_lt_findIdx hj
        simpa using this
      have hcol : ∀ j (hj : j < (c0 :: t0).length), (c0 :: t0)[j] ≠ 58 := fun j hj he => hn58 (he ▸ List.getElem_mem hj)
      have hwo := wordOf_at ((c0 :: t0) ++ 58 :: b) i (by simp at hi ⊢; omega) (fun j hj => by
        rw [List.getElem_append_left (by omega)]
        simp [brk, hmin j hj, hcol j (by omega)]) (by rw [List.getElem_append_left hi]; simp [brk, hib])
      rw [List.getElem_append_left hi, if_neg (hcol i hi)] at hwo
      have e : nextW s = (((c0 :: t0) ++ 58 :: b).take i, ((c0 :: t0) ++ 58 :: b).drop i) := by unfold nextW; rw [hd]; exact hwo
      have h58 : (58 : UInt8) ∈ (nextW s).2 := by
        rw [e]
        dsimp only
        rw [List.drop_append_of_le_length (by omega)]
        simp
      obtain ⟨t, ht, htc⟩ := toks_mem (by decide) _ h58
      rw [toks_cons hw]
      have hnl : (nextW s).1.getLast? ≠ some 58 := by
        rw [e]
        intro hl
        have hm := List.mem_of_getLast? hl
        rw [List.take_append_of_le_length (by omega)] at hm
        exact hn58 (List.mem_of_mem_take hm)
      rw [lineR, if_neg hnl, insR_colon ht htc]
      rfl
  · rw [dif_neg h]
    have hno := no58 h
    have hb := toks_bparts s [] (by simp) hno
    rw [List.nil_append] at hb
    rw [hb]
    cases ht : toks s with
    | nil => rfl
    | cons t T =>
      rw [if_neg (by simp), lineR, if_neg]
      intro hl
      have hm := List.mem_of_getLast? hl
      -- a word of s has only bytes of s
      have : ∀ (l : List UInt8), ∀ t ∈ toks l, ∀ c ∈ t, c ∈ l := fun l => toks_sub l
      exact hno (this s t (by rw [ht]; simp) 58 hm)
termination_by s.length
where
  toks_sub (l : List UInt8) : ∀ t ∈ toks l, ∀ c ∈ t, c ∈ l := by
    intro t ht c hc
    by_cases h : (nextW l).1 = []
    · rw [toks_nil h] at ht; simp at ht
    · have ha : (nextW l).1 ++ (nextW l).2 = l.dropWhile blk := wordOf_app _
      have hsub := (List.dropWhile_sublist (l := l) blk).subset
      rw [toks_cons h] at ht
      rcases List.mem_cons.1 ht with rfl | ht
      · exact hsub (by rw [← ha]; simp [hc])
      · have := nextW_len l
        have := List.length_pos_iff.2 h
        exact hsub (by rw [← ha]; exact List.mem_append_right _ (toks_sub _ t ht c hc))
  termination_by l.length
end Go.Proofs.YtkkmkfldldglgaaGreatDoor


/- A line and its body by the places at which they end; a line read colon by colon, step by step. Pure facts. No statement of the seat is proved here. -/
namespace Go.Proofs.YtkkmkfldldglgaaGreatDoor
open Go.RowKit Go.Shelf

theorem takeWhile_at (p : UInt8 → Bool) : ∀ (l : List UInt8) (k : Nat), k ≤ l.length → (∀ j (hj : j < l.length), j < k → p (l[j]) = true) → (∀ h : k < l.length, p (l[k]) = false) → l.takeWhile p = l.take k
  | [], k, hk, _, _ => by simp
  | c :: t, 0, _, _, h2 => by
    have := h2 (by simp)
    simp only [List.getElem_cons_zero] at this
    rw [List.takeWhile_cons, if_neg (by simp [this]), List.take_zero]
  | c :: t, k + 1, hk, h1, h2 => by
    have h0 := h1 0 (by simp) (by omega)
    simp only [List.getElem_cons_zero] at h0
    have := takeWhile_at p t k (by simpa using hk) (fun j hj hjk => h1 (j + 1) (by simpa using hj) (by omega)) (fun h => h2 (by simpa using h))
    rw [List.takeWhile_cons, if_pos h0, List.take_succ_cons, this]
/-- A line: from f up to t, its body up to e. -/
theorem line_step {s : List UInt8} {f t e : Nat} (hf : f < s.length) (hft : f ≤ t) (ht : t ≤ s.length) (hno : ∀ j (hj : j < s.length), f ≤ j → j < t → s[j] ≠ 10) (hend : ∀ h : t < s.length, s[t] = 10) (hfe : f ≤ e) (het : e ≤ t)
    (hn2 : ∀ j (hj : j < s.length), f ≤ j → j < e → s[j] ≠ 59) (he : ∀ h : e < s.length, e < t → s[e] = 59) :
    ∃ L, linesL (s.drop f) = L :: linesL (s.drop (t + 1)) ∧ bodyL L = (s.drop f).take (e - f) := by
  have hdl : (s.drop f).length = s.length - f := by simp
  have hbody : ((s.drop f).take (t - f)).takeWhile (fun c => c != 59) = (s.drop f).take (e - f) := by
    rw [takeWhile_at _ _ (e - f) (by simp; omega), List.take_take, Nat.min_eq_left (by omega)]
    · intro j hj hje
      simp only [List.length_take, List.length_drop] at hj
      simp only [List.getElem_take, List.getElem_drop]
      have := hn2 (f + j) (by omega) (by omega) (by omega)
      simpa using this
    · intro h
      simp only [List.length_take, List.length_drop] at h
      simp only [List.getElem_take, List.getElem_drop]
      have := he (by omega) (by omega)
      have e1 : f + (e - f) = e := by omega
      simp [e1, this]
  by_cases htl : t < s.length
  · have hcut := linesL_cut (s.drop f) (t - f) (by simp; omega) (fun j hj => by
      rw [List.getElem_drop]
      exact hno (f + j) (by omega) (by omega) (by omega)) (by
      rw [List.getElem_drop]
      have e1 : f + (t - f) = t := by omega
      simpa [e1] using hend htl)
    refine ⟨(s.drop f).take (t - f + 1), ?_, ?_⟩
    · rw [hcut, List.drop_drop]
      have e1 : f + (t - f + 1) = t + 1 := by omega
      rw [e1]
    · have e1 : f + (t - f) = t := by omega
      have hlast : (s.drop f).take (t - f + 1) = (s.drop f).take (t - f) ++ [10] := by
        rw [List.take_succ_eq_append_getElem (by simp; omega), List.getElem_drop]
        simp [e1, hend htl]
      unfold bodyL
      rw [hlast, List.getLast?_append, List.getLast?_singleton, Option.some_or, if_pos rfl, List.dropLast_concat, hbody]
  · obtain rfl : t = s.length := by omega
    have hmem : ∀ c ∈ s.drop f, c ≠ 10 := by
      intro c hc
      obtain ⟨k, hk, rfl⟩ := List.getElem_of_mem hc
      rw [List.length_drop] at hk
      rw [List.getElem_drop]
      exact hno (f + k) (by omega) (by omega) (by omega)
    have hne : s.drop f ≠ [] := fun h => by rw [h] at hdl; simp at hdl; omega
    refine ⟨s.drop f, ?_, ?_⟩
    · rw [linesL_one _ hne hmem, List.drop_eq_nil_of_le (by omega : s.length ≤ s.length + 1)]
      rfl
    · have htake : (s.drop f).take (s.length - f) = s.drop f := List.take_of_length_le (by simp)
      rw [htake] at hbody
      unfold bodyL
      rw [if_neg, hbody]
      intro h
      exact hmem 10 (List.mem_of_getLast? h) rfl

/-- The place of a label, or -1. -/
def plc (M : List (List UInt8 × Nat)) (x : List UInt8) : Int := match M.lookup x with
  | some p => (p : Int)
  | none => -1
theorem plc_drop : ∀ (M : List (List UInt8 × Nat)) (k : Nat) (x : List UInt8), (∀ j (hj : j < M.length), j < k → (M[j]).1 ≠ x) → M.lookup x = (M.drop k).lookup x
  | [], k, x, _ => by simp
  | p :: M, 0, x, _ => rfl
  | p :: M, k + 1, x, h => by
    have h0 := h 0 (by simp) (by omega)
    simp only [List.getElem_cons_zero] at h0
    rw [List.drop_succ_cons, ← plc_drop M k x (fun j hj hk => h (j + 1) (by simpa using hj) (by omega))]
    obtain ⟨a, b⟩ := p
    rw [List.lookup_cons]
    have : (x == a) = false := by simpa using fun e => h0 e.symm
    rw [this]
theorem plc_hit {M : List (List UInt8 × Nat)} {k : Nat} {x : List UInt8} (hk : k < M.length) (h : ∀ j (hj : j < M.length), j < k → (M[j]).1 ≠ x) (e : (M[k]).1 = x) : plc M x = ((M[k]).2 : Int) := by
  unfold plc
  rw [plc_drop M k x h, List.drop_eq_getElem_cons hk]
  generalize M[k] = q at *
  obtain ⟨a, b⟩ := q
  dsimp only at e ⊢
  subst e
  rw [List.lookup_cons]
  simp
theorem plc_none {M : List (List UInt8 × Nat)} {x : List UInt8} (h : ∀ j (hj : j < M.length), (M[j]).1 ≠ x) : plc M x = -1 := by
  unfold plc
  rw [plc_drop M M.length x (fun j hj _ => h j hj), List.drop_length]
  rfl
theorem lkp_mem : ∀ {M : List (List UInt8 × Nat)} {x : List UInt8} {p : Nat}, M.lookup x = some p → x ∈ M.map (·.1)
  | [], x, p, h => by simp at h
  | (a, b) :: M, x, p, h => by
    rw [List.lookup_cons] at h
    split at h
    · rename_i hb; simp only [beq_iff_eq] at hb; subst hb; simp
    · simp [List.map_cons]; right; simpa using lkp_mem h
theorem lkp_no : ∀ {M : List (List UInt8 × Nat)} {x : List UInt8}, M.lookup x = none → x ∉ M.map (·.1)
  | [], x, _ => by simp
  | (a, b) :: M, x, h => by
    rw [List.lookup_cons] at h
    split at h
    · cases h
    · rename_i hb
      rw [List.map_cons, List.mem_cons, not_or]
      exact ⟨by simpa using hb, lkp_no h⟩
theorem lkp_le : ∀ {M : List (List UInt8 × Nat)} {x : List UInt8} {p N : Nat}, (∀ q ∈ M, q.2 ≤ N) → M.lookup x = some p → p ≤ N
  | [], x, p, N, _, h => by simp at h
  | (a, b) :: M, x, p, N, hN, h => by
    rw [List.lookup_cons] at h
    split at h
    · cases h; exact hN (a, b) (by simp)
    · exact lkp_le (fun q hq => hN q (by simp [hq])) h
theorem stand_yes {r : Rd} {x : List UInt8} (h1 : labB x = true) (h2 : plc r.labs x = -1) : standR r x = some { r with labs := r.labs ++ [(x, r.code.length)] } := by
  have hm : x ∉ r.labs.map (·.1) := by
    unfold plc at h2
    cases hl : r.labs.lookup x with
    | none => exact lkp_no hl
    | some p => rw [hl] at h2; dsimp only at h2; omega
  unfold standR
  rw [if_pos ⟨h1, hm⟩]
theorem stand_no {r : Rd} {x : List UInt8} (h : labB x = false ∨ 0 ≤ plc r.labs x) : standR r x = none := by
  unfold standR
  rw [if_neg]
  rintro ⟨h1, h2⟩
  rcases h with h | h
  · rw [h1] at h; cases h
  · unfold plc at h
    cases hl : r.labs.lookup x with
    | none => rw [hl] at h; dsimp only at h; omega
    | some p => exact h2 (lkp_mem hl)
theorem plc_cases (M : List (List UInt8 × Nat)) (x : List UInt8) : plc M x = -1 ∨ 0 ≤ plc M x := by
  unfold plc
  cases M.lookup x <;> simp
/-- What stands while the labels of a line are read. -/
theorem colR_more {r : Rd} {n : Nat} {s : List UInt8} (h : s.idxOf 58 < s.length) : colR r n s = (standR r ((s.take (s.idxOf 58)).dropWhile blk)).bind fun r' => colR r' n (s.drop (s.idxOf 58 + 1)) := by
  rw [colR, dif_pos h]
theorem colR_last {r : Rd} {n : Nat} {s : List UInt8} (h : ¬ s.idxOf 58 < s.length) : colR r n s = if bparts [] s = [] then some r else insR r (bparts [] s) n := by
  rw [colR, dif_neg h]
theorem readR_line {r : Rd} {n : Nat} {L : List UInt8} {R : List (List UInt8)} : readR r n (L :: R) = match colR r n (bodyL L) with
    | none => (n, none)
    | some r' => readR r' (n + 1) R := by
  rw [readR, colR_eq]
  try (cases lineR r n (toks (bodyL L)) <;> rfl)
theorem dropWhile_blk {c : UInt8} {t : List UInt8} (h : blk c = true) : (c :: t).dropWhile blk = t.dropWhile blk := by
  rw [List.dropWhile_cons, if_pos h]
theorem dropWhile_end {c : UInt8} {t : List UInt8} (h : blk c = false) : (c :: t).dropWhile blk = c :: t := by
  rw [List.dropWhile_cons, if_neg (by simp [h])]
theorem bparts_each : ∀ (t w : List UInt8) (n : Nat), w.length + t.length ≤ n → ∀ x ∈ bparts w t, x.length ≤ n
  | [], w, n, h, x, hx => by
    rw [bparts] at hx
    split at hx
    · simp at hx
    · simp at hx; subst hx; simpa using h
  | c :: t, w, n, h, x, hx => by
    rw [bparts] at hx
    simp only [List.length_cons] at h
    split at hx
    · split at hx
      · exact bparts_each t [] n (by simp; omega) x hx
      · rcases List.mem_cons.1 hx with rfl | hx
        · omega
        · exact bparts_each t [] n (by simp; omega) x hx
    · exact bparts_each t (w ++ [c]) n (by simp; omega) x hx
theorem bparts_ne : ∀ (t w : List UInt8), ∀ x ∈ bparts w t, x ≠ []
  | [], w, x, hx => by
    rw [bparts] at hx
    split at hx
    · simp at hx
    · rename_i h; simp at hx; subst hx; exact h
  | c :: t, w, x, hx => by
    rw [bparts] at hx
    split at hx
    · split at hx
      · exact bparts_ne t [] x hx
      · rename_i h
        rcases List.mem_cons.1 hx with rfl | hx
        · exact h
        · exact bparts_ne t [] x hx
    · exact bparts_ne t (w ++ [c]) x hx
theorem zeroed_no32 {ws : List (List UInt8)} (h : ∀ x ∈ ws, (32 : UInt8) ∉ x) : ∀ x ∈ zeroed ws, (32 : UInt8) ∉ x := by
  intro x hx
  unfold zeroed at hx
  split at hx
  · rcases List.mem_or_eq_of_mem_set hx with hx | rfl
    · exact h x hx
    · decide
  · exact h x hx
theorem bparts_no32 : ∀ (t w : List UInt8), (32 : UInt8) ∉ w → ∀ x ∈ bparts w t, (32 : UInt8) ∉ x
  | [], w, h, x, hx => by
    rw [bparts] at hx
    split at hx
    · simp at hx
    · simp at hx; subst hx; exact h
  | c :: t, w, h, x, hx => by
    rw [bparts] at hx
    split at hx
    · split at hx
      · exact bparts_no32 t [] (by simp) x hx
      · rcases List.mem_cons.1 hx with rfl | hx
        · exact h
        · exact bparts_no32 t [] (by simp) x hx
    · rename_i hb
      refine bparts_no32 t (w ++ [c]) (fun hm => ?_) x hx
      rcases List.mem_append.1 hm with hm | hm
      · exact h hm
      · simp only [List.mem_singleton] at hm
        subst hm
        exact hb (by decide)
end Go.Proofs.YtkkmkfldldglgaaGreatDoor
