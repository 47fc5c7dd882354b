
/- Jumps ahead; a line part by part: walks of Cut, ParseUint, next, number, kind. No statement of the seat is proved here. -/
import Derived.Test.YtjaldfmdjnkoeaaDoorEvD
import Derived.Test.YtjaldfmdjnkoeaaDoorLay
import Derived.ScopeJumps
import Derived.Lib.CutLaws
namespace Go.Proofs.YtjaldfmdjnkoeaaDoor
open Go.RowKit Go.Shelf

/-- By a goto to a label: what is asked there; else as Q. -/
def jumps (J : Nat → Act → World → Prop) (Q : Exit → Act → World → Prop) : Exit → Act → World → Prop
  | .goto l, a, w => J l a w
  | e, a, w => Q e a w
section
variable {P : Program} {a : Act} {w : World} {Q : Exit → Act → World → Prop}
/-- A scope in which the run jumps to labels: what holds at each of them, and a measure that every pass lowers. -/
theorem wp_scope_many {c : Code} (J : Nat → Act → World → Prop) (μ : Nat → Act → World → Nat) (rest : Nat → Code) (hf : ∀ l a w, J l a w → findLabel c l = some (rest l))
    (first : c.wp P (jumps J Q) a w)
    (pass : ∀ l a w, J l a w → (rest l).wp P (jumps (fun l' a' w' => J l' a' w' ∧ μ l' a' w' < μ l a w) Q) a w) : (Code.scope c).wp P Q a w := by
  intro b k cs
  have hg : ∀ l a w, J l a w → gotoIn l (.inScope c :: k) = some (.code (rest l) :: .inScope c :: k) := fun l a w h => by simp [gotoIn, hf l a w h]
  have key : ∀ n l a w, μ l a w = n → J l a w → ∃ e a' w', Q e a' w' ∧ Arrives P (lone (b.at a (.code (rest l) :: .inScope c :: k)) cs w) b k cs e a' w' := by
    intro n
    induction n using Nat.strongRecOn with
    | _ n ih =>
      intro l a w hn hJ
      obtain ⟨e, a₁, w₁, hq, harr⟩ := pass l a w hJ b (.inScope c :: k) cs
      cases e with
      | normal => exact ⟨.normal, a₁, w₁, hq, Steps.trans harr (.one step_inScope)⟩
      | exit id => exact ⟨.exit id, a₁, w₁, hq, fun k' hk => harr k' (by simp [exitTo, hk])⟩
      | goto l' =>
        obtain ⟨hJ', hlt⟩ := hq
        obtain ⟨e₂, a₂, w₂, hq₂, harr₂⟩ := ih _ (by omega) l' a₁ w₁ rfl hJ'
        exact ⟨e₂, a₂, w₂, hq₂, .of_steps (harr _ (hg l' a₁ w₁ hJ')) harr₂⟩
      | ret => exact ⟨_, a₁, w₁, hq, harr⟩
      | panic ch => exact ⟨_, a₁, w₁, hq, harr⟩
      | outgrown => exact ⟨_, a₁, w₁, hq, harr⟩
  obtain ⟨e, a₁, w₁, hq, harr⟩ := first b (.inScope c :: k) cs
  cases e with
  | normal => exact ⟨.normal, a₁, w₁, hq, .head step_scope (Steps.trans harr (.one step_inScope))⟩
  | exit id => exact ⟨.exit id, a₁, w₁, hq, fun k' hk => .head step_scope (harr k' (by simp [exitTo, hk]))⟩
  | goto l' =>
    obtain ⟨e₂, a₂, w₂, hq₂, harr₂⟩ := key _ l' a₁ w₁ rfl hq
    exact ⟨e₂, a₂, w₂, hq₂, .of_steps (.head step_scope (harr _ (hg l' a₁ w₁ hq))) harr₂⟩
  | ret => exact ⟨_, a₁, w₁, hq, .of_steps (.one step_scope) harr⟩
  | panic ch => exact ⟨_, a₁, w₁, hq, .of_steps (.one step_scope) harr⟩
  | outgrown => exact ⟨_, a₁, w₁, hq, .of_steps (.one step_scope) harr⟩
/-- What is asked at a label where all jumps lead to labels of a lower rank: that the code from there on does what is asked. -/
def ahead (c : Code) (P : Program) (Q : Exit → Act → World → Prop) (rk : Nat → Nat) (n : Nat) (l : Nat) (a : Act) (w : World) : Prop :=
  ∃ K, findLabel c l = some K ∧ K.wp P (jumps (fun l' a' w' => ∃ _ : rk l' < n, ahead c P Q rk (rk l') l' a' w') Q) a w
termination_by n
theorem ahead_go {c : Code} {rk : Nat → Nat} {n l : Nat} {K : Code} (hK : findLabel c l = some K) (h : K.wp P (jumps (fun l' a' w' => rk l' < n ∧ ahead c P Q rk (rk l') l' a' w') Q) a w) : ahead c P Q rk n l a w := by
  rw [ahead]
  refine ⟨K, hK, Code.wp_mono (fun e a w h => ?_) h⟩
  cases e with
  | goto l => exact ⟨h.1, h.2⟩
  | normal => exact h
  | exit id => exact h
  | ret => exact h
  | panic ch => exact h
  | outgrown => exact h
theorem wp_scope_ahead {c : Code} (rk : Nat → Nat) (first : c.wp P (jumps (fun l a w => ahead c P Q rk (rk l) l a w) Q) a w) : (Code.scope c).wp P Q a w := by
  refine wp_scope_many (fun l a w => ahead c P Q rk (rk l) l a w) (fun l _ _ => rk l) (fun l => (findLabel c l).getD Code.skip) (fun l a w h => ?_) first (fun l a w h => ?_)
  · rw [ahead] at h
    obtain ⟨K, hK, _⟩ := h
    rw [hK]; rfl
  · rw [ahead] at h
    obtain ⟨K, hK, h⟩ := h
    rw [hK]
    refine Code.wp_mono (fun e a w h => ?_) h
    cases e with
    | goto l => exact ⟨h.2, h.1⟩
    | normal => exact h
    | exit id => exact h
    | ret => exact h
    | panic ch => exact h
    | outgrown => exact h
end

/-- A line cut at a byte: what stands ahead of it, what behind it, and was it there. -/
def cutA (c : UInt8) : List UInt8 → List UInt8 × List UInt8 × Bool
  | [] => ([], [], false)
  | d :: t => if d = c then ([], t, true) else (d :: (cutA c t).1, (cutA c t).2.1, (cutA c t).2.2)
theorem cut_eq (c : UInt8) : ∀ l : List UInt8, Lib.cut l [c] = cutA c l
  | [] => by unfold Lib.cut; rfl
  | d :: t => by
    have ih := cut_eq c t
    by_cases hc : d = c
    · subst hc
      have hi : Lib.index (d :: t) [d] = (0 : Nat) := Lib.index_first (i := 0) (Nat.zero_le _) (by simp [Lib.occAt]) (fun _ h => absurd h (Nat.not_lt_zero _))
      unfold Lib.cut
      rw [hi]
      simp [cutA]
    · have hno : Lib.NoOcc (d :: t) [c] 1 := fun j hj => by
        obtain rfl : j = 0 := by omega
        have hc' : ¬ c = d := fun h => hc h.symm
        simp [Lib.occAt, List.isPrefixOf, hc']
      have hd := Lib.index_drop hno (by simp)
      simp only [List.drop_succ_cons, List.drop_zero] at hd
      unfold cutA
      rw [if_neg hc, ← ih]
      unfold Lib.cut
      rw [hd]
      by_cases hn : Lib.index t [c] = -1
      · simp [hn]
      · have hge : 0 ≤ Lib.index t [c] := by
          have := Lib.index_ge t [c]
          omega
        obtain ⟨i, hi⟩ : ∃ i : Nat, Lib.index t [c] = i := ⟨(Lib.index t [c]).toNat, by omega⟩
        have hb : ((i : Int) == -1) = false := by simp
        have e1 : ((i : Int) + 1).toNat = i + 1 := by omega
        have e2 : (0 : Int) ≤ (i : Int) + 1 := by omega
        rw [hi]
        simp [hb, e1, e2]
theorem cutA_len (c : UInt8) : ∀ l : List UInt8, (cutA c l).1.length + (cutA c l).2.1.length ≤ l.length
  | [] => by simp [cutA]
  | d :: t => by
    have := cutA_len c t
    unfold cutA
    split
    · simp
    · simp; omega
theorem size_of (l : List UInt8) : (⟨l.toArray⟩ : ByteArray).size = l.length := by simp [ByteArray.size]
theorem cut_any (c : UInt8) (l : List UInt8) (hl : l.length < 4294967281) (w : World) (hg : Gv w) : Calls Tryd.prog 49 #[.string ⟨l.toArray⟩, .string ⟨#[c]⟩] w fun ex w' => ex = .returned (.tuple #[.string ⟨(cutA c l).1.toArray⟩, .string ⟨(cutA c l).2.1.toArray⟩, .bool (cutA c l).2.2]) ∧ Keeps (fun _ => False) w w' := by
  obtain ⟨m, hm⟩ := hg.max
  have h := Any.strings_Cut lays145 ⟨l.toArray⟩ ⟨#[c]⟩ m w (by rw [size_of]; omega) hm
  refine h.mono fun e w' ⟨h1, n, h2⟩ => ?_
  change e = .returned (.tuple #[.string ⟨(Lib.cut l [c]).1.toArray⟩, .string ⟨(Lib.cut l [c]).2.1.toArray⟩, .bool (Lib.cut l [c]).2.2]) at h1
  rw [cut_eq] at h1
  exact ⟨h1, by rw [h2]; exact (Keeps.refl _ w).drewN n⟩
/-- What ParseUint answers. -/
def parP (l : List UInt8) : Nat × Bool := match Lib.parseUintB 64 l with
  | .ok u => (u, true)
  | .syntax => (0, false)
  | .range => (18446744073709551615, false)
theorem parse_any (l : List UInt8) (hl : l.length < 4294967281) (w : World) (hg : Gv w) : Calls Tryd.prog 78 #[.string ⟨l.toArray⟩, .int .i64 10, .int .i64 64] w fun ex w' => (∃ x, ex = .returned (.tuple #[.int .u64 ((parP l).1 : Int), x]) ∧ (((parP l).2 = true ∧ x = .nilIface) ∨ ((parP l).2 = false ∧ ∃ t p, x = .iface t (.pointer (some p))))) ∧ Keeps (fun _ => False) w w' := by
  have hs : (⟨l.toArray⟩ : ByteArray).data.toList = l := by simp
  unfold parP
  cases hp : Lib.parseUintB 64 l with
  | ok u =>
    refine (Any.strconv_ParseUint_10_at64_ok layspu14 ⟨l.toArray⟩ (by rw [size_of]; omega) u (by rw [hs]; exact hp) w).mono ?_
    rintro ex w' ⟨rfl, h⟩
    refine ⟨⟨_, rfl, .inl ⟨rfl, rfl⟩⟩, ?_⟩
    rcases h with rfl | rfl
    · exact Keeps.refl _ _
    · exact Keeps.of_below (Lib.bytesWorld_below _ _ _) _
  | «syntax» =>
    obtain ⟨tp, p, hc⟩ := hg.esy
    refine (Any.strconv_ParseUint_10_at64_syntax layspu14 ⟨l.toArray⟩ (by rw [size_of]; omega) (by rw [hs]; exact hp) (.iface tp p) w hc (.inr ⟨tp, p, rfl⟩)).mono ?_
    rintro ex w' ⟨N, rfl, _, _, h⟩
    exact ⟨⟨_, rfl, .inr ⟨rfl, _, _, rfl⟩⟩, Keeps.of_below h _⟩
  | range =>
    obtain ⟨tp, p, hc⟩ := hg.erg
    refine (Any.strconv_ParseUint_10_at64_range layspu14 ⟨l.toArray⟩ (by rw [size_of]; omega) (by rw [hs]; exact hp) (.iface tp p) w hc (.inr ⟨tp, p, rfl⟩)).mono ?_
    rintro ex w' ⟨N, rfl, _, _, h⟩
    exact ⟨⟨_, rfl, .inr ⟨rfl, _, _, rfl⟩⟩, Keeps.of_below h _⟩

set_option maxRecDepth 100000 in
set_option maxHeartbeats 2000000 in
theorem next_any (p : Nat) (l : List UInt8) (hl : l.length < 4294967281) (m : Bool) (w : World) (hb : w.heap[p]? = some (.cells #[.string ⟨l.toArray⟩, .bool m] 114 (0, 0))) (hg : Gv w) :
    Calls Tryd.prog 77 #[.pointer (some ⟨p, 0, none⟩)] w fun ex w' => ex = .returned (.string ⟨(cutA 32 l).1.toArray⟩) ∧ w'.heap[p]? = some (.cells #[.string ⟨(cutA 32 l).2.1.toArray⟩, .bool (cutA 32 l).2.2] 114 (0, 0)) ∧ Keeps (fun q => q = p) w w' := by
  have C := cut_any 32 l hl w hg
  generalize cutA 32 l = r at *
  obtain ⟨r1, r2, r3⟩ := r
  dsimp only at *
  have c0 : w.cell? ⟨p, 0, none⟩ = some (.string ⟨l.toArray⟩) := by rw [cell_of_block hb]; rfl
  have hlt := lt_of_block hb
  go_enter Tryd.func77, Tryd.ntmps77
  go_wp2_with fail
  refine C.mono ?_
  rintro ex w1 ⟨rfl, k1⟩
  have b1 := (k1.block _ hlt (fun f => f)).trans hb
  have d0 : w1.cell? ⟨p, 0, none⟩ = some (.string ⟨l.toArray⟩) := by rw [cell_of_block b1]; rfl
  have d1 : w1.cell? ⟨p, 1, none⟩ = some (.bool m) := by rw [cell_of_block b1]; rfl
  have f0 : w1.frozen? ⟨p, 0, none⟩ = false := frozen_of_block b1 _
  have f1 : w1.frozen? ⟨p, 1, none⟩ = false := frozen_of_block b1 _
  have BE : Hid (((w1.setCell ⟨p, 0, none⟩ (.string ⟨r2.toArray⟩)).setCell ⟨p, 1, none⟩ (.bool r3)).heap[p]? = some (.cells #[.string ⟨r2.toArray⟩, .bool r3] 114 (0, 0))) := block_set (block_set b1 0 (.string ⟨r2.toArray⟩)) 1 (.bool r3)
  have KE : Hid (Keeps (fun q => q = p) w ((w1.setCell ⟨p, 0, none⟩ (.string ⟨r2.toArray⟩)).setCell ⟨p, 1, none⟩ (.bool r3))) := Keeps.setCell (S := fun q => q = p) (Keeps.setCell (S := fun q => q = p) (k1.mono (fun _ _ f => f.elim)) (.inr rfl) _) (.inr rfl) _
  clear b1 hb C
  go_wp2_with fail
  go_ret
  exact ⟨rfl, BE.out, KE.out⟩

theorem parP_ne {l : List UInt8} (h : (parP l).2 = true) : ∃ c t, l = c :: t := by
  cases l with
  | nil => simp [parP, Lib.parseUintB] at h
  | cons c t => exact ⟨c, t, rfl⟩
/-- A number of a line, or none. -/
def numP (most : Nat) (l : List UInt8) : Bool := (parP l).2 && decide ((parP l).1 ≤ most) && (decide (l.head? ≠ some 48) || decide (l.length = 1))
set_option maxRecDepth 100000 in
set_option maxHeartbeats 2000000 in
theorem number_any (p : Nat) (l : List UInt8) (hl : l.length < 4294967281) (m : Bool) (most : Nat) (w : World) (hb : w.heap[p]? = some (.cells #[.string ⟨l.toArray⟩, .bool m] 114 (0, 0))) (hg : Gv w) (h8 : 8 ≤ p) :
    Calls Tryd.prog 67 #[.pointer (some ⟨p, 0, none⟩), .int .u64 (most : Int)] w fun ex w' => ex = .returned (.tuple #[.int .u64 ((parP (cutA 32 l).1).1 : Int), .bool (numP most (cutA 32 l).1)]) ∧ w'.heap[p]? = some (.cells #[.string ⟨(cutA 32 l).2.1.toArray⟩, .bool (cutA 32 l).2.2] 114 (0, 0)) ∧ Keeps (fun q => q = p) w w' := by
  have NX := next_any p l hl m w hb hg
  have hcl := cutA_len 32 l
  generalize cutA 32 l = r at *
  obtain ⟨r1, r2, r3⟩ := r
  dsimp only at *
  have PA := fun W hW => parse_any r1 (by omega) W hW
  have HG : Hid (∀ X, Keeps (fun q => q = p) w X → Gv X) := fun X k => hg.keepsB k (fun q hq e => by omega)
  have hne := @parP_ne r1
  have hN : numP most r1 = ((parP r1).2 && decide ((parP r1).1 ≤ most) && (decide (r1.head? ≠ some 48) || decide (r1.length = 1))) := rfl
  rw [hN]
  clear hN hb hg
  generalize hpp : parP r1 = pp at *
  obtain ⟨u, ok⟩ := pp
  dsimp only at *
  go_enter Tryd.func67, Tryd.ntmps67
  go_wp2_with fail
  refine NX.mono ?_
  rintro ex w1 ⟨rfl, b1, k1⟩
  go_wp2_with fail
  refine (PA w1 (HG.out w1 k1)).mono ?_
  rintro ex w2 ⟨⟨x, rfl, hx⟩, k2⟩
  have b2 : Hid (w2.heap[p]? = some (.cells #[.string ⟨r2.toArray⟩, .bool r3] 114 (0, 0))) := (k2.block _ (lt_of_block b1) (fun f => f)).trans b1
  have K2 : Hid (Keeps (fun q => q = p) w w2) := k1.trans (k2.mono (fun _ _ f => f.elim))
  clear b1 k1 k2 NX PA HG hpp
  rcases hx with ⟨rfl, rfl⟩ | ⟨rfl, t, q, rfl⟩
  · obtain ⟨c, t, rfl⟩ := hne rfl
    clear hne
    have hlen : (⟨(c :: t).toArray⟩ : ByteArray).size = t.length + 1 := by simp [ByteArray.size]
    by_cases hu : u ≤ most
    · have hui : (u : Int) ≤ most := by omega
      by_cases h48 : c = 48
      · subst h48
        by_cases ht : t = []
        · subst ht
          go_wp2_with fail
          go_ret2
          exact ⟨by simp [hu], b2.out, K2.out⟩
        · have ht2 : ¬ ((t.length : Int) + 1 = 1) := by
            have := List.length_pos_iff.2 ht
            omega
          go_wp2_with fail
          go_ret2
          exact ⟨by simp [hu, ht]; exact ht2, b2.out, K2.out⟩
      · have hc : ¬ (c.toNat : Int) = 48 := fun h => h48 (UInt8.toNat_inj.1 (by have : (48 : UInt8).toNat = 48 := rfl; omega))
        go_wp2_with fail
        go_ret2
        exact ⟨by simp [hu, h48], b2.out, K2.out⟩
    · have hui : ¬ (u : Int) ≤ most := by omega
      go_wp2_with fail
      go_ret2
      exact ⟨by simp [hu], b2.out, K2.out⟩
  · go_wp2_with fail
    go_ret2
    exact ⟨rfl, b2.out, K2.out⟩
/-- The kind that a name names. -/
def kindP (l : List UInt8) : Int × Bool × Bool := if l = [111, 119, 110] then (2, true, true) else match (List.range 13).find? (fun k => decide (0 < k) && decide (shL k = l)) with
  | some k => ((k : Int), false, true)
  | none => (0, false, false)
theorem kindP_yes {l : List UInt8} (h : l ≠ [111, 119, 110]) {K : Nat} (h1 : 1 ≤ K) (h2 : K < 13) (h3 : shL K = l) (h4 : ∀ j, 1 ≤ j → j < K → shL j ≠ l) : kindP l = ((K : Int), false, true) := by
  have hf : (List.range 13).find? (fun k => decide (0 < k) && decide (shL k = l)) = some K := by
    refine List.find?_range_eq_some.2 ⟨?_, by simpa using h2, fun j hj => ?_⟩
    · simp [h3]; omega
    · by_cases h0 : 0 < j
      · simp [h4 j h0 hj]
      · simp [h0]
  unfold kindP
  rw [if_neg h, hf]
theorem kindP_no {l : List UInt8} (h : l ≠ [111, 119, 110]) (h4 : ∀ j, 1 ≤ j → j < 13 → shL j ≠ l) : kindP l = (0, false, false) := by
  unfold kindP
  rw [if_neg h, List.find?_eq_none.2 fun j hj => ?_]
  by_cases h0 : 0 < j
  · simp [h4 j h0 (by simpa using hj)]
  · simp [h0]
theorem results_tmp3 {fn : Func} {a b c : Tmp} (h : fn.results = #[.tmp a, .tmp b, .tmp c]) (tmps : Array Value) (P : Program) (w : World) : (results fn tmps).run P w = .ok (.tuple #[tmps.getD a undef, tmps.getD b undef, tmps.getD c undef]) w := by
  simp only [results, h]
  simp
set_option maxRecDepth 100000 in
set_option maxHeartbeats 2000000 in
theorem kind_any (p : Nat) (l : List UInt8) (hl : l.length < 4294967281) (m : Bool) (w : World) (hb : w.heap[p]? = some (.cells #[.string ⟨l.toArray⟩, .bool m] 114 (0, 0))) (hg : Gv w) (h8 : 8 ≤ p) :
    Calls Tryd.prog 68 #[.pointer (some ⟨p, 0, none⟩)] w fun ex w' => ex = .returned (.tuple #[.int .i64 (kindP (cutA 32 l).1).1, .bool (kindP (cutA 32 l).1).2.1, .bool (kindP (cutA 32 l).1).2.2]) ∧ w'.heap[p]? = some (.cells #[.string ⟨(cutA 32 l).2.1.toArray⟩, .bool (cutA 32 l).2.2] 114 (0, 0)) ∧ Keeps (fun q => q = p) w w' := by
  have NX := next_any p l hl m w hb hg
  generalize cutA 32 l = r at *
  obtain ⟨r1, r2, r3⟩ := r
  dsimp only at *
  have HG : Hid (∀ X, Keeps (fun q => q = p) w X → Gv X) := fun X k => hg.keepsB k (fun q hq e => by omega)
  clear hb hg
  go_enter Tryd.func68, Tryd.ntmps68
  go_wp2_with fail
  refine NX.mono ?_
  rintro ex w1 ⟨rfl, b1, k1⟩
  have hg1 := HG.out w1 k1
  have HB : Hid (w1.heap[p]? = some (.cells #[.string ⟨r2.toArray⟩, .bool r3] 114 (0, 0)) ∧ Keeps (fun q => q = p) w w1) := ⟨b1, k1⟩
  clear NX HG b1 k1
  have hstr : ∀ (x y : List UInt8), ((⟨x.toArray⟩ : ByteArray) = ⟨y.toArray⟩) ↔ x = y := fun x y => by
    constructor
    · intro h; have := congrArg (fun b : ByteArray => b.data.toList) h; simpa using this
    · rintro rfl; rfl
  by_cases ho : r1 = [111, 119, 110]
  · subst ho
    go_wp2_with fail
    refine bodyPost_ret (results_tmp3 rfl _ _ _) rfl ?_
    exact ⟨rfl, HB.out⟩
  · have ho2 : (r1 == [111, 119, 110]) = false := by simpa using ho
    go_wp2_with fail
    go_loopw [2] (fun u wr => ∃ (K : Nat), u = .int .i64 K ∧ 1 ≤ K ∧ K ≤ 13 ∧ wr = w1 ∧ Hid (∀ j, 1 ≤ j → j < K → shL j ≠ r1)) (fun u _ => 13 - (intOf u).toNat)
    case atStart => exact ⟨1, rfl, by omega, by omega, rfl, fun j h1 h2 => by omega⟩
    case round =>
      obtain ⟨K, rfl, hK1, hK2, rfl, hh⟩ := hrel
      by_cases hlt : K < 13
      · have hKi : (K : Int) ≤ 12 := by omega
        have hK13 : (K : Int) < 13 := by omega
        have hK0 : (0 : Int) ≤ K := by omega
        have cn := hg1.nm K hlt
        by_cases hs : shL K = r1
        · have hR : Hid (kindP r1 = ((K : Int), false, true)) := kindP_yes ho hK1 hlt hs hh.out
          have hs2 : (shL K == r1) = true := by simpa using hs
          clear hs hh
          generalize shL K = sk at *
          go_wp2_with fail
          refine bodyPost_ret (results_tmp3 rfl _ _ _) rfl ?_
          exact ⟨by rw [hR.out]; rfl, HB.out⟩
        · have hs2 : (shL K == r1) = false := by simpa using hs
          have hh2 : Hid (∀ j, 1 ≤ j → j < K + 1 → shL j ≠ r1) := fun j h1 h2 => by
            by_cases e : j = K
            · subst e; exact hs
            · exact hh.out j h1 (by omega)
          clear hs hh
          generalize shL K = sk at *
          go_wp2_with fail
          go_roundw
          · exact ⟨K + 1, by simp, by omega, by omega, by first | rfl | trivial, hh2.out⟩
          · simp [intOf]; omega
      · obtain rfl : K = 13 := by omega
        have hR : Hid (kindP r1 = (0, false, false)) := kindP_no ho hh.out
        clear hh
        go_wp2_with fail
        refine bodyPost_ret (results_tmp3 rfl _ _ _) rfl ?_
        exact ⟨by rw [hR.out]; rfl, HB.out⟩
end Go.Proofs.YtjaldfmdjnkoeaaDoor
