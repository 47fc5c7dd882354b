
/- The document's Over and Same, the statement's same (layer 21). No statement of the seat is proved here. -/
import Derived.Test.YtmnbilhblkobdaaLqL
import Derived.Test.YtmnbilhblkobdaaLqK
import Derived.Test.YtmnbilhblkobdaaLqI
import Derived.Test.YtmnbilhblkobdaaLqE
import Derived.Test.YtmnbilhblkobdaaLiF
import Derived.Test.YtmnbilhblkobdaaLiH
import Derived.Test.YtmnbilhblkobdaaLiDf
namespace Go.Proofs.Ytmnbilhblkobdaa
open Go.RowKit

theorem app_nil (w : World) (v : Value) (xs : List Int) (hr : Lies w v xs) (hb : xs.length ≤ 1000000) :
    ∃ g c w', (Builtin.append_ #[30, 30] 30 #[.slice none 0 0, v]).run Try.prog w = .ok (.slice (adr g c) xs.length c) w' ∧ Keeps (fun _ => False) w w' ∧ xs.length ≤ c ∧ Wr w' w.heap.size (.slice (adr g c) xs.length c) xs ∧ (c = 0 ∨ (w.heap.size ≤ g ∧ ∃ cur, w'.heap[g]? = some (.cells cur 25 (0, 0)) ∧ ∀ i, i < xs.length → cur[i]? = some (.int .u64 (oat xs i)))) := by
  by_cases hx : xs = []
  · subst hx
    obtain ⟨i0, hi, hz0, hz1, hz2⟩ := info_parts info_word
    obtain ⟨sp, c, rfl, hc⟩ := hr
    have hsrc : Src Try.prog i0.size 30 (.slice sp 0 c) 0 [] w := by
      cases sp with
      | none => exact Src.ofNil w (e' := 25) Try.underlying30 c
      | some a => exact Src.ofSlice w (e' := 25) Try.underlying30 a 0 c [] (by simp) (fun j u hj => by simp at hj) (by simp)
    exact ⟨0, 0, w, run_append_nothing w 30 30 30 25 i0 Try.underlying30 hi none 0 0 (Nat.le_refl _) _ hsrc, Keeps.refl _ _, by simp, Wr.nil _ _, .inl rfl⟩
  · have hl : 0 < xs.length := List.length_pos_iff.2 hx
    obtain ⟨v1, w1, r1, o1, g1⟩ := app_words w w.heap.size (.slice none 0 0) 0 [] (Wr.nil w w.heap.size) v xs hr (by omega) (Nat.le_refl _)
    have k1 : Keeps (fun _ => False) w w1 := (keeps_grown g1).mono (fun k hk e => by cases e)
    simp only [Nat.zero_add, List.nil_append] at o1
    have o2 := o1
    rcases id o1.2 with ⟨h1, h2⟩ | ⟨g, cap, cur, rfl, h1, h2, h3, _⟩
    · omega
    · have hc0 : cap ≠ 0 := by omega
      refine ⟨g, cap, w1, ?_, k1, h3, ?_, .inr ⟨h1, cur, h2, fun i hi => ?_⟩⟩
      · rw [adr_pos hc0]; exact r1
      · rw [adr_pos hc0]; exact o2
      · have q := World.ownsRow.cellAt o2 i (by omega)
        rw [cell_of_block h2] at q
        rw [q]
        simp [wordsV, oat, hi]
set_option maxRecDepth 100000 in
set_option maxHeartbeats 1000000 in
theorem over_any (v : Value) (xs : List Int) (hxs : ∀ x ∈ xs, isW x) (hl : xs.length ≤ 1000000) (w : World) (hr : Lies w v xs) :
    Calls Try.prog 14 #[v] w fun e w' => ∃ b g c, e = .returned (.pointer (some ⟨b, 0, none⟩)) ∧ WdAt w' b g c ⟨xs, 0, 0, -1, 0⟩ ∧ Keeps (fun _ => False) w w' ∧ w.heap.size ≤ b ∧ w.heap.size ≤ g := by
  obtain ⟨g, c, w1, hrun, k1, hc, _, hg⟩ := app_nil w v xs hr hl
  have HF : Hid (∃ g', WdAt (w1.alloc (.cells #[.slice (adr g c) xs.length c, .int .i64 0, .int .i64 0, .int .i64 (-1), .int .i64 0] 36)) w1.heap.size g' c ⟨xs, 0, 0, -1, 0⟩ ∧ w.heap.size ≤ g') := by
    have hsz := k1.size
    rcases hg with h0 | ⟨h1, cur, h2, h3⟩
    · subst h0
      exact hid ⟨w1.heap.size, ⟨alloc_block w1 _, .inl ⟨rfl, rfl⟩, hc, hxs, hl⟩, hsz⟩
    · have hlt := lt_of_block h2
      exact hid ⟨g, ⟨alloc_block w1 _, .inr ⟨by omega, cur, ((keeps_new w1 _).block g hlt (fun f => f)).trans h2, h3⟩, hc, hxs, hl⟩, h1⟩
  have HR := hid hrun
  have HK := hid k1
  obtain ⟨ad, had⟩ : ∃ ad, adr g c = ad := ⟨_, rfl⟩
  rw [had] at HF HR
  obtain ⟨sa, sc, rfl, _⟩ := hr
  clear hrun k1 hg hc had
  go_enter Try.func14, Try.ntmps14
  go_wp2_with (at_builtin; refine wpList_append_run rfl _ _ 30 rfl rfl rfl HR.out ?_; clear HR)
  go_ret
  obtain ⟨g', h1, h2⟩ := HF.out
  exact ⟨_, g', c, rfl, h1, HK.out.alloc _, HK.out.size, h2⟩
set_option maxHeartbeats 1000000 in
theorem words_same (va vb : Value) (l : List Int) (hl : l.length ≤ 17592186044416) (w : World) (ha : Lies w va l) (hb : Lies w vb l) :
    Calls Try.prog 11 #[va, vb] w fun e w' => e = .returned (.bool true) ∧ ∃ m, w' = w.drewN m := by
  obtain ⟨aa, ca, rfl, ha⟩ := ha
  obtain ⟨ab, cb, rfl, hb⟩ := hb
  have HA := hid ha
  have HB := hid hb
  clear ha hb
  go_enter Try.func11, Try.ntmps11
  go_wp2_with fail
  go_loopw [5] (fun i wr => ∃ k : Nat, k ≤ l.length ∧ i = .int .i64 k ∧ ∃ m, wr = w.drewN m) (fun i _ => l.length - (intOf i).toNat)
  case atStart => exact ⟨0, by omega, rfl, 0, rfl⟩
  case round =>
    obtain ⟨k, hk, rfl, mm, rfl⟩ := hrel
    by_cases hlt : k < l.length
    · obtain ⟨g, off, rfl, d1⟩ := HA.out k hlt
      obtain ⟨g', off', rfl, d2⟩ := HB.out k hlt
      clear HA HB
      go_wp2_with fail
      go_quiet (fail)
      go_wp2_with fail
      go_roundw
      case rel => exact ⟨k + 1, by omega, by go_num, _, rfl⟩
      case measure => simp [intOf]; omega
    · obtain rfl : k = l.length := by omega
      clear HA HB
      go_wp2_with fail
      go_ret
      exact ⟨rfl, _, rfl⟩

set_option maxHeartbeats 1000000 in
theorem same_any (x e : Int) (h : Bool) (va vb : Value) (l : List Int) (hl : l.length ≤ 17592186044416) (w : World) (ha : Lies w va l) (hb : Lies w vb l) :
    Calls Try.prog 9 #[.agg #[.int .u64 x, .bool h, va, .int .i64 e], .agg #[.int .u64 x, .bool h, vb, .int .i64 e]] w fun r w' => r = .returned (.bool true) ∧ Keeps (fun _ => False) w w' := by
  have HA := hid ha
  have HB := hid hb
  obtain ⟨aa, ca, rfl, _⟩ := ha
  obtain ⟨ab, cb, rfl, _⟩ := hb
  go_enter Try.func9, Try.ntmps9
  go_wp2_with fail
  have kn := ((keeps_new w (.cells #[.int .u64 x, .bool h, .slice aa l.length ca, .int .i64 e] 38)).alloc (.cells #[.int .u64 x, .bool h, .slice ab l.length cb, .int .i64 e] 38))
  refine (words_same _ _ l hl _ (HA.out.keeps kn (fun _ _ _ _ f => f)) (HB.out.keeps kn (fun _ _ _ _ f => f))).mono ?_
  rintro r w' ⟨rfl, m, hw⟩
  have HK := hid (kn.drewN m)
  rw [← hw] at HK
  clear hw kn
  go_wp2_with fail
  go_ret
  exact ⟨rfl, HK.out⟩
end Go.Proofs.Ytmnbilhblkobdaa
