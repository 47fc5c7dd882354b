/-
  No statement of the seat is proved here. (Several texts in one: SlI, SlJ.)
-/
import Derived.Test.YtjgibkofenkehaaSlB1
import Derived.Test.YtjgibkofenkehaaSlB2
import Derived.Test.YtjgibkofenkehaaSlB3
import Derived.Test.YtjgibkofenkehaaSlB4
import Derived.Test.YtjgibkofenkehaaSlB5
import Derived.Test.YtjgibkofenkehaaSlB6
import Derived.Test.YtjgibkofenkehaaSlB7
import Derived.Test.YtjgibkofenkehaaSlB8
import Derived.Test.YtjgibkofenkehaaSlB9
import Derived.Test.YtjgibkofenkehaaSlB10
import Derived.Test.YtjgibkofenkehaaSlBz
import Derived.Test.YtjgibkofenkehaaSlD

/- The law's plays, any step (layer 22). No statement of the seat is proved here. -/
namespace Go.Proofs.Ytjgibkofenkehaa
open Go.RowKit

theorem plays_any (k lv ro at_ x y : Int) (hok : St.Ok ⟨k, lv, ro, at_, x, y⟩) (b1 g1 c1 b2 g2 c2 : Nat) (s : Wd) (rms : Rm s 131300) (w : World) (h : Du w b1 g1 c1 b2 g2 c2 w s s) :
    Calls Try.prog 9 #[.pointer (some ⟨b1, 0, none⟩), .pointer (some ⟨b2, 0, none⟩), .agg #[.int .i64 k, .int .i64 lv, .int .u64 ro, .int .u64 at_, .int .u64 x, .int .u64 y]] w fun e w' => e = .returned (.bool true) ∧ ∃ s', Du w b1 g1 c1 b2 g2 c2 w' s' s' := by
  have key : ∀ {s' : Wd} {P : Prop}, Calls Try.prog 9 #[.pointer (some ⟨b1, 0, none⟩), .pointer (some ⟨b2, 0, none⟩), .agg #[.int .i64 k, .int .i64 lv, .int .u64 ro, .int .u64 at_, .int .u64 x, .int .u64 y]] w (fun e w' => e = .returned (.bool true) ∧ Du w b1 g1 c1 b2 g2 c2 w' s' s') → Calls Try.prog 9 #[.pointer (some ⟨b1, 0, none⟩), .pointer (some ⟨b2, 0, none⟩), .agg #[.int .i64 k, .int .i64 lv, .int .u64 ro, .int .u64 at_, .int .u64 x, .int .u64 y]] w (fun e w' => e = .returned (.bool true) ∧ ∃ s', Du w b1 g1 c1 b2 g2 c2 w' s' s') := fun q => q.mono (fun _ _ e => ⟨e.1, _, e.2⟩)
  by_cases h0 : k < 1 ∨ 10 < k
  · exact key (P := True) (plays_0 k h0 lv ro at_ x y hok b1 g1 c1 b2 g2 c2 s rms w h)
  · have hc : k = 1 ∨ k = 2 ∨ k = 3 ∨ k = 4 ∨ k = 5 ∨ k = 6 ∨ k = 7 ∨ k = 8 ∨ k = 9 ∨ k = 10 := by omega
    rcases hc with rfl | rfl | rfl | rfl | rfl | rfl | rfl | rfl | rfl | rfl
    · exact key (P := True) (plays_1 lv ro at_ x y hok b1 g1 c1 b2 g2 c2 s rms w h)
    · exact key (P := True) (plays_2 lv ro at_ x y hok b1 g1 c1 b2 g2 c2 s rms w h)
    · exact key (P := True) (plays_3 lv ro at_ x y hok b1 g1 c1 b2 g2 c2 s rms w h)
    · exact key (P := True) (plays_4 lv ro at_ x y hok b1 g1 c1 b2 g2 c2 s rms w h)
    · exact key (P := True) (plays_5 lv ro at_ x y hok b1 g1 c1 b2 g2 c2 s rms w h)
    · exact key (P := True) (plays_6 lv ro at_ x y hok b1 g1 c1 b2 g2 c2 s rms w h)
    · exact key (P := True) (plays_7 lv ro at_ x y hok b1 g1 c1 b2 g2 c2 s rms w h)
    · exact key (P := True) (plays_8 lv ro at_ x y hok b1 g1 c1 b2 g2 c2 s rms w h)
    · exact key (P := True) (plays_9 lv ro at_ x y hok b1 g1 c1 b2 g2 c2 s rms w h)
    · exact key (P := True) (plays_10 lv ro at_ x y hok b1 g1 c1 b2 g2 c2 s rms w h)
end Go.Proofs.Ytjgibkofenkehaa


/- The law SkipPlays: the tx and the tape over copies of the words (layer 22). No statement of the seat is proved here. -/
namespace Go.Proofs.Ytjgibkofenkehaa
open Go.RowKit

theorem app_nil (w : World) (v : Value) (xs : List Int) (hr : Lies w v xs) (hb : xs.length * 8 ≤ 140737488351232) :
    ∃ g c w', (Builtin.append_ #[22, 22] 22 #[.slice none 0 0, v]).run Try.prog w = .ok (.slice (adr g c) xs.length c) w' ∧ Keeps (fun _ => False) w w' ∧ xs.length ≤ c ∧ (c = 0 ∨ (w.heap.size ≤ g ∧ ∃ cur, w'.heap[g]? = some (.cells cur 32 (0, 0)) ∧ ∀ i, i < xs.length → cur[i]? = some (.int .u64 (oat xs i)))) := by
  by_cases hx : xs = []
  · subst hx
    obtain ⟨i0, hi, hz0, hz1, hz2⟩ := info_parts info_word
    obtain ⟨sp, c, rfl, hc⟩ := hr
    have hsrc : Src Try.prog i0.size 22 (.slice sp 0 c) 0 [] w := by
      cases sp with
      | none => exact Src.ofNil w (e' := 32) Try.underlying22 c
      | some a => exact Src.ofSlice w (e' := 32) Try.underlying22 a 0 c [] (by simp) (fun j u hj => by simp at hj) (by simp)
    exact ⟨0, 0, w, run_append_nothing w 22 22 22 32 i0 Try.underlying22 hi none 0 0 (Nat.le_refl _) _ hsrc, Keeps.refl _ _, by simp, .inl rfl⟩
  · have hl : 0 < xs.length := List.length_pos_iff.2 hx
    obtain ⟨v1, w1, r1, o1, g1⟩ := app_words w w.heap.size (.slice none 0 0) 0 [] (Wr.nil w w.heap.size) v xs hr (by omega) (Nat.le_refl _)
    have k1 : Keeps (fun _ => False) w w1 := (keeps_grown g1).mono (fun k hk e => by cases e)
    simp only [Nat.zero_add, List.nil_append] at o1
    have o2 := o1
    rcases id o1.2 with ⟨h1, h2⟩ | ⟨g, cap, cur, rfl, h1, h2, h3, _⟩
    · omega
    · have hc0 : cap ≠ 0 := by omega
      refine ⟨g, cap, w1, ?_, k1, h3, .inr ⟨h1, cur, h2, fun i hi => ?_⟩⟩
      · rw [adr_pos hc0]; exact r1
      · have q := World.ownsRow.cellAt o2 i (by omega)
        rw [cell_of_block h2] at q
        rw [q]
        simp [wordsV, oat, hi]
theorem wd_app (T : TypeId) (w : World) (v : Value) (xs : List Int) (hxs : ∀ x ∈ xs, isW x) (hr : Lies w v xs) (hb : xs.length * 8 ≤ 140737488351232) (gd er : Int) :
    ∃ ad g c w', (Builtin.append_ #[22, 22] 22 #[.slice none 0 0, v]).run Try.prog w = .ok (.slice ad xs.length c) w' ∧ Keeps (fun _ => False) w w' ∧ WdAt T (w'.alloc (.cells #[.slice ad xs.length c, .slice none 0 0, .int .i64 gd, .int .i64 er] T (0, 0))) w'.heap.size g c ⟨xs, [], gd, er⟩ ∧ ∀ i, own (w'.alloc (.cells #[.slice ad xs.length c, .slice none 0 0, .int .i64 gd, .int .i64 er] T (0, 0))) w'.heap.size g i → w.heap.size ≤ i := by
  obtain ⟨g, c, w1, hrun, k1, hc, hg⟩ := app_nil w v xs hr hb
  have hsz := k1.size
  have b0 := alloc_block w1 (.cells #[.slice (adr g c) xs.length c, .slice none 0 0, .int .i64 gd, .int .i64 er] T (0, 0))
  have ho : ∀ g', w.heap.size ≤ g' → ∀ i, own (w1.alloc (.cells #[.slice (adr g c) xs.length c, .slice none 0 0, .int .i64 gd, .int .i64 er] T (0, 0))) w1.heap.size g' i → w.heap.size ≤ i := by
    intro g' hg' i hi
    rcases hi with e | e | ⟨x, u, y, z, t, fr, e1, e2⟩
    · omega
    · omega
    · rw [b0] at e1
      simp at e1
      obtain ⟨⟨_, rfl, _⟩, _⟩ := e1
      simp [Value.ownBlock] at e2
  have hlg : ∃ u, (w1.alloc (.cells #[.slice (adr g c) xs.length c, .slice none 0 0, .int .i64 gd, .int .i64 er] T (0, 0))).heap[w1.heap.size]? = some (.cells #[.slice (adr g c) xs.length c, u, .int .i64 gd, .int .i64 er] T (0, 0)) ∧ (w1.alloc (.cells #[.slice (adr g c) xs.length c, .slice none 0 0, .int .i64 gd, .int .i64 er] T (0, 0))).ownsRow 0 114 3 u 0 (accV []) ∧ u.ownBlock = none := ⟨.slice none 0 0, b0, ⟨rfl, .inl ⟨rfl, rfl⟩⟩, rfl⟩
  rcases hg with h0 | ⟨h1, cur, h2, h3⟩
  · subst h0
    refine ⟨adr g 0, w1.heap.size, 0, w1, hrun, k1, ⟨?_, .inl ⟨rfl, rfl⟩, hc, hxs, by show xs.length ≤ _; omega⟩, ho _ hsz⟩
    obtain ⟨u, q1, q2, q3⟩ := hlg
    exact ⟨u, q1, q2, fun k hk => by rw [q3] at hk; cases hk⟩
  · have hlt := lt_of_block h2
    refine ⟨adr g c, g, c, w1, hrun, k1, ⟨?_, .inr ⟨by omega, cur, ((keeps_new w1 _).block g hlt (fun f => f)).trans h2, h3⟩, hc, hxs, by show xs.length ≤ _; omega⟩, ho _ h1⟩
    obtain ⟨u, q1, q2, q3⟩ := hlg
    exact ⟨u, q1, q2, fun k hk => by rw [q3] at hk; cases hk⟩
theorem StepsAt.keeps {w w' : World} {a : Option Addr} {n : Nat} (h : StepsAt w a n) (k : Keeps (fun _ => False) w w') : StepsAt w' a n := fun i hi => by
  obtain ⟨g, off, e, s, hs, hc⟩ := h i hi
  exact ⟨g, off, e, s, hs, fun j v hj => (World.cell?_of_block (k.block g (World.block_lt_of_cell? _ _ (hc j v hj)) (fun f => f))).trans (hc j v hj)⟩
end Go.Proofs.Ytjgibkofenkehaa
