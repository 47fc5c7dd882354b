
/- strings.IndexRune and strings.IndexAny at the three signs that end a word, over any bytes. No statement of the seat is proved here. -/
import Derived.Test.YtkkmkfldldglgaaGreatDoorAqM
import Derived.Test.YtkkmkfldldglgaaGreatDoorLay
import Derived.Scope
import Derived.Laws.RangeAny
import Derived.Lib.OthersKept
namespace Go.Proofs.YtkkmkfldldglgaaGreatDoor
open Go.RowKit Go.Shelf

def C3 : ByteArray := ⟨#[32, 9, 58]⟩

/-- It answers a bool. -/
def BoolE (e : Ending) : Prop := ∃ b, e = .returned (.bool b)
theorem valid_any (r : Int) (w : World) : Calls Tryz.prog 140 #[.int .i32 r] w fun e w' => BoolE e ∧ w' = w := by
  by_cases h1 : 0 ≤ r
  · by_cases h2 : r < 55296
    · go_enter Tryz.func140, Tryz.ntmps140
      go_wp2
      go_ret
      exact ⟨⟨_, rfl⟩, rfl⟩
    · by_cases h3 : 57343 < r
      · by_cases h4 : r ≤ 1114111
        · go_enter Tryz.func140, Tryz.ntmps140
          go_wp2
          go_ret
          exact ⟨⟨_, rfl⟩, rfl⟩
        · go_enter Tryz.func140, Tryz.ntmps140
          go_wp2
          go_ret
          exact ⟨⟨_, rfl⟩, rfl⟩
      · go_enter Tryz.func140, Tryz.ntmps140
        go_wp2
        go_ret
        exact ⟨⟨_, rfl⟩, rfl⟩
  · have h3 : ¬ 57343 < r := by omega
    go_enter Tryz.func140, Tryz.ntmps140
    go_wp2
    go_ret
    exact ⟨⟨_, rfl⟩, rfl⟩

/-- The bytes of a rune that is not ASCII: two to four, the last of them at least 128. -/
theorem enc_high (r : Int) (h : 128 ≤ r) : (∃ b0 b1, Utf8.encode r = ⟨#[b0, b1]⟩ ∧ 128 ≤ b1.toNat) ∨ (∃ b0 b1 b2, Utf8.encode r = ⟨#[b0, b1, b2]⟩ ∧ 128 ≤ b2.toNat) ∨ (∃ b0 b1 b2 b3, Utf8.encode r = ⟨#[b0, b1, b2, b3]⟩ ∧ 128 ≤ b3.toNat) := by
  have hc : 128 ≤ (if Utf8.valid r then r.toNat else Utf8.runeError) := by
    split
    · omega
    · decide
  unfold Utf8.encode
  generalize (if Utf8.valid r then r.toNat else Utf8.runeError) = c at hc
  have hb : 128 ≤ (UInt8.ofNat (128 + c % 64)).toNat := by simp; omega
  dsimp only
  rw [if_neg (by omega)]
  split
  · exact .inl ⟨_, _, rfl, hb⟩
  · split
    · exact .inr (.inl ⟨_, _, _, rfl, hb⟩)
    · exact .inr (.inr ⟨_, _, _, _, rfl, hb⟩)
theorem ibyte_any (l : List UInt8) (c : Int) (w : World) : Calls Tryz.prog 76 #[.string ⟨l.toArray⟩, .int .u8 c] w fun e w' => e = .returned (.int .i64 (Lib.indexByte l c.toNat.toUInt8)) ∧ w' = w :=
  Any.strings_IndexByte lays137 ⟨l.toArray⟩ c w

set_option maxRecDepth 100000 in
set_option maxHeartbeats 2000000 in
theorem irune_high (r : Int) (h0 : 128 ≤ r) (h1 : r ≤ 2147483647) (w : World) : Calls Tryz.prog 121 #[.string ⟨#[32, 9, 58]⟩, .int .i32 r] w fun e w' => e = .returned (.int .i64 (-1)) ∧ Below w.heap.size w w' := by
  have g0 : 0 ≤ r := by omega
  have g1 : ¬ r < 128 := by omega
  by_cases he : r = 65533
  · subst he
    have ki : ∀ p, Below w.heap.size w (w.iter ⟨#[32, 9, 58]⟩ p) := fun p => (Below.refl _ w).alloc (Nat.le_refl _) _
    go_enter Tryz.func121, Tryz.ntmps121
    go_wp2_with fail
    go_loopw [4] (fun v wr => v = .int .i64 0 ∧ ∃ p : Nat, p ≤ 3 ∧ wr = w.iter ⟨#[32, 9, 58]⟩ p) (fun _ wr => 3 - wr.iterPos w.heap.size)
    case atStart => exact ⟨rfl, 0, by omega, rfl⟩
    case round =>
      obtain ⟨rfl, p, hp, rfl⟩ := hrel
      have hps : p = 0 ∨ p = 1 ∨ p = 2 ∨ p = 3 := by omega
      rcases hps with rfl | rfl | rfl | rfl
      · have hn := fun ty => run_next_ascii (P := Tryz.prog) w ⟨#[32, 9, 58]⟩ 0 ty (by decide) (by decide)
        go_wp2_with fail
        go_roundw
        · exact ⟨rfl, 1, by omega, rfl⟩
        · simp
      · have hn := fun ty => run_next_ascii (P := Tryz.prog) w ⟨#[32, 9, 58]⟩ 1 ty (by decide) (by decide)
        go_wp2_with fail
        go_roundw
        · exact ⟨rfl, 2, by omega, rfl⟩
        · simp
      · have hn := fun ty => run_next_ascii (P := Tryz.prog) w ⟨#[32, 9, 58]⟩ 2 ty (by decide) (by decide)
        go_wp2_with fail
        go_roundw
        · exact ⟨rfl, 3, by omega, rfl⟩
        · simp
      · have hn := run_next_end (P := Tryz.prog) w ⟨#[32, 9, 58]⟩ 3
        go_wp2_with fail
        go_ret
        exact ⟨rfl, ki _⟩
  · have V := valid_any r
    have E := enc_high r h0
    go_enter Tryz.func121, Tryz.ntmps121
    go_wp2_with fail
    refine (V _).mono ?_
    rintro e w1 ⟨⟨b, rfl⟩, rfl⟩
    cases b
    · go_wp2_with fail
      go_ret
      exact ⟨rfl, Below.refl _ _⟩
    · have ne9 : ∀ b : UInt8, 128 ≤ b.toNat → ((9 : Int) != (b.toNat : Int)) = true := fun b hb => by simp; omega
      have ne58 : ∀ b : UInt8, 128 ≤ b.toNat → ((58 : Int) != (b.toNat : Int)) = true := fun b hb => by simp; omega
      have i1 : ∀ b : UInt8, 128 ≤ b.toNat → Lib.indexByte [58] ((b.toNat : Int)).toNat.toUInt8 = -1 := fun b hb => by
        have : ((58 : UInt8) == b) = false := by
          rw [beq_eq_false_iff_ne]; rintro rfl; simp at hb
        simp [Lib.indexByte, this]
      have i0 : ∀ b : UInt8, 128 ≤ b.toNat → Lib.indexByte [] ((b.toNat : Int)).toNat.toUInt8 = -1 := fun b hb => rfl
      clear V h1 g0 g1
      rcases E with ⟨b0, b1, hE, hb⟩ | ⟨b0, b1, b2, hE, hb⟩ | ⟨b0, b1, b2, b3, hE, hb⟩
      · have q1 : ((((⟨#[32, 9, 58]⟩ : ByteArray)[1]'(by decide)).toNat : Int) != (((⟨#[b0, b1]⟩ : ByteArray)[1]'(by exact (by decide : 1 < 2))).toNat : Int)) = true := ne9 _ hb
        have IB : ∀ w, Calls Tryz.prog 76 #[.string ⟨#[58]⟩, .int .u8 (((⟨#[b0, b1]⟩ : ByteArray)[1]'(by exact (by decide : 1 < 2))).toNat : Int)] w fun e w' => e = .returned (.int .i64 (-1)) ∧ w' = w := fun w => by
          have := ibyte_any [58] (b1.toNat : Int) w
          rw [i1 _ hb] at this
          exact this
        have wr2 : IntKind.i64.wrap 2 = 2 := by decide
        have wr3 : IntKind.i64.wrap 3 = 3 := by decide
        clear ne9 ne58 i1 i0
        go_wp2_with fail
        refine wp_scope_straight ?_
        go_wp2_with fail
        go_loopw [9] (fun v wr => v = .int .i64 1 ∧ wr = w1) (fun _ _ => 0)
        case atStart => exact ⟨rfl, rfl⟩
        case round =>
          obtain ⟨rfl, rfl⟩ := hrel
          go_wp2_with fail
          refine wp_scope_straight ?_
          go_wp2_with fail
          go_quiet (fail)
          go_wp2_with fail
          go_quiet ((go_at_call 76; exact (IB _).mono (fun _ _ ⟨h1, h2⟩ => ⟨h1, _, h2⟩)))
          go_wp2_with fail
          simp only [Exit.noGoto]
          first
          | go_ret
          | (go_wp2_with fail
             simp only [Exit.noGoto]
             go_ret)
          exact ⟨rfl, ⟨rfl, rfl, rfl, Nat.le_refl _, fun _ _ => rfl⟩⟩
      · have q1 : ((((⟨#[32, 9, 58]⟩ : ByteArray)[2]'(by decide)).toNat : Int) != (((⟨#[b0, b1, b2]⟩ : ByteArray)[2]'(by exact (by decide : 2 < 3))).toNat : Int)) = true := ne58 _ hb
        have IB : ∀ w, Calls Tryz.prog 76 #[.string ⟨#[]⟩, .int .u8 (((⟨#[b0, b1, b2]⟩ : ByteArray)[2]'(by exact (by decide : 2 < 3))).toNat : Int)] w fun e w' => e = .returned (.int .i64 (-1)) ∧ w' = w := fun w => by
          have := ibyte_any [] (b2.toNat : Int) w
          rw [i0 _ hb] at this
          exact this
        have wr2 : IntKind.i64.wrap 2 = 2 := by decide
        have wr3 : IntKind.i64.wrap 3 = 3 := by decide
        clear ne9 ne58 i1 i0
        go_wp2_with fail
        refine wp_scope_straight ?_
        go_wp2_with fail
        go_loopw [9] (fun v wr => v = .int .i64 2 ∧ wr = w1) (fun _ _ => 0)
        case atStart => exact ⟨rfl, rfl⟩
        case round =>
          obtain ⟨rfl, rfl⟩ := hrel
          go_wp2_with fail
          refine wp_scope_straight ?_
          go_wp2_with fail
          go_quiet (fail)
          go_wp2_with fail
          go_quiet ((go_at_call 76; exact (IB _).mono (fun _ _ ⟨h1, h2⟩ => ⟨h1, _, h2⟩)))
          go_wp2_with fail
          simp only [Exit.noGoto]
          first
          | go_ret
          | (go_wp2_with fail
             simp only [Exit.noGoto]
             go_ret)
          exact ⟨rfl, ⟨rfl, rfl, rfl, Nat.le_refl _, fun _ _ => rfl⟩⟩
      · go_wp2_with fail
        refine wp_scope_straight ?_
        go_wp2_with fail
        go_loopw [9] (fun v wr => v = .int .i64 3 ∧ wr = w1) (fun _ _ => 0)
        case atStart => exact ⟨rfl, rfl⟩
        case round =>
          obtain ⟨rfl, rfl⟩ := hrel
          go_wp2_with fail
          simp only [Exit.noGoto]
          first
          | go_ret
          | (go_wp2_with fail
             simp only [Exit.noGoto]
             go_ret)
          exact ⟨rfl, ⟨rfl, rfl, rfl, Nat.le_refl _, fun _ _ => rfl⟩⟩

/-- No sign of ASCII stands within a rune that begins with a byte of 128 or more. -/
theorem decode_skip (s : ByteArray) (pos : Nat) (h : pos < s.size) (ha : 128 ≤ (s[pos]'h).toNat) : pos + (Utf8.decode s pos).2 ≤ s.size ∧ ∀ k, 1 ≤ k → k < (Utf8.decode s pos).2 → 128 ≤ (s.get! (pos + k)).toNat := by
  have hn : ¬ (s[pos]'h).toNat < 128 := by omega
  simp only [Utf8.decode, get_at s pos h, hn, if_false]
  repeat' split
  all_goals simp_all
  all_goals first
    | (intro k h1 h2
       have hk : k = 1 ∨ k = 2 ∨ k = 3 := by omega
       rcases hk with rfl | rfl | rfl <;> omega)
    | (refine ⟨by omega, ?_⟩
       intro k h1 h2
       have hk : k = 1 ∨ k = 2 ∨ k = 3 := by omega
       rcases hk with rfl | rfl | rfl <;> omega)
theorem get_bang (s : ByteArray) (k : Nat) (h : k < s.size) : s.get! k = s[k]'h := get_at s k h
theorem not_c3 {b : UInt8} (h : 128 ≤ b.toNat) : ([32, 9, 58] : List UInt8).contains b = false := by
  have h1 : b ≠ 32 := by rintro rfl; simp at h
  have h2 : b ≠ 9 := by rintro rfl; simp at h
  have h3 : b ≠ 58 := by rintro rfl; simp at h
  simp [h1, h2, h3]

theorem irune_low (r : Int) (h0 : 0 ≤ r) (h1 : r < 128) (w : World) : Calls Tryz.prog 121 #[.string ⟨#[32, 9, 58]⟩, .int .i32 r] w fun e w' => e = .returned (.int .i64 (Lib.indexByte [32, 9, 58] r.toNat.toUInt8)) ∧ w' = w :=
  Any.strings_IndexRune_ascii { lays153 with } ⟨#[32, 9, 58]⟩ r w h0 h1
theorem useset_any (n : Int) (w : World) : Calls Tryz.prog 122 #[.int .i64 n] w fun e w' => e = .returned (.bool (decide (8 < n))) ∧ w' = w :=
  Any.strings_shouldUseASCIISet { lays153 with } n w

set_option maxRecDepth 100000 in
set_option maxHeartbeats 2000000 in
theorem iany_short (s : ByteArray) (w : World) (h8 : s.size ≤ 8) :
    Calls Tryz.prog 99 #[.string s, .string ⟨#[32, 9, 58]⟩] w fun e w' => e = .returned (.int .i64 (Lib.indexAny s.data.toList [32, 9, 58])) ∧ Below w.heap.size w w' := by
  have h8z : decide ((8 : Int) < (s.size : Int)) = false := decide_eq_false (by omega)
  go_enter Tryz.func99, Tryz.ntmps99
  go_wp2_with (go_at_call 122; refine (useset_any _ _).mono ?_; rintro e w' ⟨rfl, hw⟩; rw [hw, h8z])
  subst hw
  go_loopw [4] (fun v wr => v = .int .i64 0 ∧ ∃ p : Nat, p ≤ s.size ∧ wr.heap[w'.heap.size]? = some (.stringIter s p) ∧ Hid (Below w'.heap.size w' wr ∧ Lib.NoAny s.data.toList [32, 9, 58] p)) (fun _ wr => s.size - wr.iterPos w'.heap.size)
  case atStart => exact ⟨rfl, 0, by omega, World.iter_heap _ _ _, ⟨(Below.refl _ w').alloc (Nat.le_refl _) _, Lib.NoAny.zero _ _⟩⟩
  case round =>
    obtain ⟨rfl, p, hp, hit, hno⟩ := hrel
    have hpos : wr.iterPos w'.heap.size = p := by simp [World.iterPos, hit]
    by_cases hlt : p < s.size
    · obtain ⟨x, hx⟩ : ∃ x : UInt8, s[p]'hlt = x := ⟨_, rfl⟩
      have hxl : Hid (s.data.toList[p]? = some x) := by rw [← hx]; exact Lib.data_getElem? s p hlt
      by_cases hhi : 128 ≤ x.toNat
      · have hn := fun ty => Lib.run_next_any_at (P := Tryz.prog) wr w'.heap.size s p ty hit hlt
        have hr := (decode_high s p hlt (by rw [hx]; exact hhi)).1
        have hz1 := (decode_high s p hlt (by rw [hx]; exact hhi)).2
        have hle := decode_le s p
        obtain ⟨hs1, hs2⟩ := decode_skip s p hlt (by rw [hx]; exact hhi)
        have hno2 : Hid (Lib.NoAny s.data.toList [32, 9, 58] (p + (Utf8.decode s p).2)) := by
          intro j b hj hb
          by_cases hjp : j < p
          · exact hno.out.2 j b hjp hb
          · by_cases hje : j = p
            · subst hje
              rw [hxl.out] at hb
              cases hb
              exact not_c3 hhi
            · have := hs2 (j - p) (by omega) (by omega)
              rw [show p + (j - p) = j by omega, get_bang s j (by omega)] at this
              have hjl := Lib.data_getElem? s j (by omega)
              rw [hjl] at hb
              cases hb
              exact not_c3 this
        have IR := irune_high (Utf8.decode s p).1 (by omega) (by omega)
        have hB := Lib.below_iterAt hno.out.1 (Nat.le_refl _) s (p + (Utf8.decode s p).2)
        have hI := Lib.iterAt_heap wr w'.heap.size s p (p + (Utf8.decode s p).2) hit
        generalize (Utf8.decode s p).1 = r at *
        generalize (Utf8.decode s p).2 = z at *
        clear hs2 hno hxl
        generalize wr.iterAt w'.heap.size s (p + z) = W1 at *
        go_wp2_with fail
        refine (IR _).mono ?_
        rintro e w2 ⟨rfl, k2⟩
        have hI2 := (k2.block _ (lt_of_block hI)).trans hI
        have hB2 := hB.trans (k2.mono hB.size)
        have hpos2 : w2.iterPos w'.heap.size = p + z := by simp [World.iterPos, hI2]
        clear hn
        go_wp2_with fail
        go_roundw
        · exact ⟨rfl, p + z, hs1, hI2, ⟨hB2, hno2.out⟩⟩
        · rw [hpos2, hpos]; omega
      · have hn := fun ty => Lib.run_next_ascii_at (P := Tryz.prog) wr w'.heap.size s p ty hit hlt (by rw [hx]; omega)
        rw [hx] at hn
        have IR := irune_low (x.toNat : Int) (by omega) (by omega)
        have hback : ((x.toNat : Int)).toNat.toUInt8 = x := by simp
        rw [hback] at IR
        have hcon := Lib.contains_iff_indexByte [32, 9, 58] x
        have hB := Lib.below_iterAt hno.out.1 (Nat.le_refl _) s (p + 1)
        have hI := Lib.iterAt_heap wr w'.heap.size s p (p + 1) hit
        generalize wr.iterAt w'.heap.size s (p + 1) = W1 at *
        have hpos2 : W1.iterPos w'.heap.size = p + 1 := by simp [World.iterPos, hI]
        cases hin : ([32, 9, 58] : List UInt8).contains x
        · rw [hin] at hcon
          have hlt0 : ¬ ((0 : Int) ≤ Lib.indexByte [32, 9, 58] x) := of_decide_eq_false hcon.symm
          have hno2 : Hid (Lib.NoAny s.data.toList [32, 9, 58] (p + 1)) := hno.out.2.succ hxl.out hin
          generalize Lib.indexByte [32, 9, 58] x = ib at *
          clear hcon hin hno hxl
          go_wp2_with fail
          refine (IR _).mono ?_
          rintro e w2 ⟨rfl, hw2⟩
          subst hw2
          clear hn
          go_wp2_with fail
          go_roundw
          · exact ⟨rfl, p + 1, by omega, hI, ⟨hB, hno2.out⟩⟩
          · rw [hpos2, hpos]; omega
        · rw [hin] at hcon
          have hlt0 : (0 : Int) ≤ Lib.indexByte [32, 9, 58] x := of_decide_eq_true hcon.symm
          have hres : Hid (Lib.indexAny s.data.toList [32, 9, 58] = p) := Lib.indexAny_hit hno.out.2 hxl.out hin
          generalize Lib.indexByte [32, 9, 58] x = ib at *
          clear hcon hin hno hxl
          go_wp2_with fail
          refine (IR _).mono ?_
          rintro e w2 ⟨rfl, hw2⟩
          subst hw2
          clear hn
          go_wp2_with fail
          go_ret
          exact ⟨by rw [hres.out]; rfl, hB⟩
    · have hn := fun ty => Lib.run_next_end_at (P := Tryz.prog) wr w'.heap.size s p ty hit hlt
      obtain rfl : p = s.size := by omega
      have hres : Hid (Lib.indexAny s.data.toList [32, 9, 58] = -1) := Lib.indexAny_none (by rw [← Lib.size_eq]; exact hno.out.2)
      have hB := hno.out.1
      clear hno
      go_wp2_with fail
      go_ret
      exact ⟨by rw [hres.out]; rfl, hB⟩

theorem h172 : (Tryz.prog.info? (lays153_ren.t 116)).map (fun i => (i.zero, i.size)) = some (some (.agg (Array.replicate 256 (.bool false))), 256) := by kernel_rfl
/-- strings.IndexAny at the three signs, over any bytes. -/
theorem iany_any (l : List UInt8) (hl : l.length < 4294967281) (w : World) :
    Calls Tryz.prog 99 #[.string ⟨l.toArray⟩, .string ⟨#[32, 9, 58]⟩] w fun e w' => e = .returned (.int .i64 (Lib.indexAny l [32, 9, 58])) ∧ Below w.heap.size w w' := by
  have hs : (⟨l.toArray⟩ : ByteArray).size = l.length := by simp [ByteArray.size]
  by_cases h8 : l.length ≤ 8
  · exact iany_short ⟨l.toArray⟩ w (by omega)
  · refine (Any.strings_IndexAny_long lays153 (zero_of_info h172).1 (zero_of_info h172).2 ⟨l.toArray⟩ ⟨#[32, 9, 58]⟩ w (by decide) (by omega) (by omega) (by decide) (ascii_of_all (by decide))).mono fun e w' ⟨h1, h2⟩ => ⟨h1, ?_⟩
    rw [h2]
    exact ((Below.refl _ _).alloc (Nat.le_refl _) _).alloc (by simp) _
end Go.Proofs.YtkkmkfldldglgaaGreatDoor
