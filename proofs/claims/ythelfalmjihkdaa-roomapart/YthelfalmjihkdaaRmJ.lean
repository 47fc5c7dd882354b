
/- Both worlds beside one another: the statement's tx and the document's words (layer 20). No statement of the seat is proved here. -/
import Derived.Test.YthelfalmjihkdaaRmDd
import Derived.Test.YthelfalmjihkdaaRmDe
import Derived.Test.YthelfalmjihkdaaRmDf
import Derived.Test.YthelfalmjihkdaaRmEa
import Derived.Test.YthelfalmjihkdaaRmEb
import Derived.Test.YthelfalmjihkdaaRmEc
import Derived.Test.YthelfalmjihkdaaRmF
import Derived.Test.YthelfalmjihkdaaRmG
import Derived.Test.YthelfalmjihkdaaRmH
import Derived.Test.YthelfalmjihkdaaRmI
namespace Go.Proofs.Ythelfalmjihkdaa
open Go.RowKit

/-- Both, apart. -/
structure Bo (w : World) (t b g c b' g' c' : Nat) (s s' : Wd) : Prop where
  tw : Tw w t b g c s
  rw : WdAt w b' g' c' s'
  tb : t ≠ b'
  tg : t ≠ g'
  bb : b ≠ b'
  bg : b ≠ g'
  gb : g ≠ b'
  gg : g ≠ g'
def four (b g b' g' : Nat) (k : Nat) : Prop := two b g k ∨ two b' g' k
section
variable {w w' a : World} {t b g c b' g' c' : Nat} {s s' s1 : Wd}
theorem Bo.own (h : Bo w t b g c b' g' c' s s') (h1 : Tw w' t b g c s1) (k : Keeps (two b g) w w') : Bo w' t b g c b' g' c' s1 s' :=
  ⟨h1, h.rw.kept k (fun e => by rcases e with e | e; exact h.bb e.symm; exact h.gb e.symm) (fun e => by rcases e with e | e; exact h.bg e.symm; exact h.gg e.symm), h.tb, h.tg, h.bb, h.bg, h.gb, h.gg⟩
theorem Bo.ref (h : Bo w t b g c b' g' c' s s') (h1 : WdAt w' b' g' c' s1) (k : Keeps (two b' g') w w') : Bo w' t b g c b' g' c' s s1 :=
  ⟨⟨h.tw.tx.kept k (fun e => by rcases e with e | e; exact h.tb e; exact h.tg e), h.tw.wd.kept k (fun e => by rcases e with e | e; exact h.bb e; exact h.bg e) (fun e => by rcases e with e | e; exact h.gb e; exact h.gg e), h.tw.ne⟩, h1, h.tb, h.tg, h.bb, h.bg, h.gb, h.gg⟩
theorem Bo.new (h : Bo w t b g c b' g' c' s s') (k : Keeps (fun _ => False) w w') : Bo w' t b g c b' g' c' s s' :=
  ⟨⟨h.tw.tx.kept k (fun f => f), h.tw.wd.kept k (fun f => f) (fun f => f), h.tw.ne⟩, h.rw.kept k (fun f => f) (fun f => f), h.tb, h.tg, h.bb, h.bg, h.gb, h.gg⟩
theorem Keeps.f1 (k : Keeps (four b g b' g') a w) (k1 : Keeps (two b g) w w') : Keeps (four b g b' g') a w' := k.trans (k1.mono fun _ _ e => .inl e)
theorem Keeps.f2 (k : Keeps (four b g b' g') a w) (k1 : Keeps (two b' g') w w') : Keeps (four b g b' g') a w' := k.trans (k1.mono fun _ _ e => .inr e)
end

theorem box_after {S : Nat → Prop} {w w1 : World} {cs : Array Value} {ty : TypeId} (k : Keeps S (w.alloc (.cells cs ty)) w1) (hs : ¬ S w.heap.size) : w1.heap[w.heap.size]? = some (.cells cs ty (0, 0)) :=
  (k.block w.heap.size (by simp) hs).trans (alloc_block w _)
theorem Bo.lt {w : World} {t b g c b' g' c' : Nat} {s s' : Wd} (h : Bo w t b g c b' g' c' s s') : b < w.heap.size ∧ g < w.heap.size ∧ b' < w.heap.size ∧ g' < w.heap.size ∧ t < w.heap.size := ⟨h.tw.wd.ltb, h.tw.wd.ltg, h.rw.ltb, h.rw.ltg, h.tw.tx.lt⟩
theorem Gv.go_len : ∀ (k : Nat) (g : Gv), (Gv.go k g).out.length ≤ g.out.length + k
  | 0, g => Nat.le_refl _
  | k + 1, g => by
    by_cases hg : g.on
    · rw [Gv.go_next hg]
      have q := Gv.go_len k g.step
      have e : g.step.out.length = g.out.length + 1 := by unfold Gv.step; simp
      omega
    · rw [Gv.go_stop hg]
      omega
theorem given_len (s : Wd) (a n : Int) : (s.given a n).1.1.length ≤ 65536 := by
  unfold Wd.given
  split
  · simp
  · generalize hG : Gv.go 65536 _ = G
    have q := Gv.go_len 65536 ⟨[], (s.get (hdA a n)).1.1, (s.get (hdA a n)).1.2, (s.get (hdA a n)).2⟩
    rw [hG] at q
    unfold Gv.fin
    split
    · simp
    · split
      · simpa using q
      · simp
set_option maxHeartbeats 400000 in
/-- Two slices that read as the same words. -/
theorem words_same (va vb : Value) (l : List Int) (hl : l.length ≤ 17592186044416) (w : World) (ha : Lies w va l) (hb : Lies w vb l) :
    Calls Try.prog 6 #[va, vb] w fun e w' => e = .returned (.bool true) ∧ ∃ m, w' = w.drewN m := by
  obtain ⟨aa, ca, rfl, ha⟩ := ha
  obtain ⟨ab, cb, rfl, hb⟩ := hb
  have HA := hid ha
  have HB := hid hb
  clear ha hb
  go_enter Try.func6, Try.ntmps6
  go_wp2_with fail
  go_loopw [5] (fun i wr => ∃ k : Nat, k ≤ l.length ∧ i = .int .i64 k ∧ ∃ m, wr = w.drewN m) (fun i _ => l.length - (intOf i).toNat)
  case atStart => exact ⟨0, by omega, rfl, 0, rfl⟩
  case round =>
    obtain ⟨k, hk, rfl, mm, rfl⟩ := hrel
    by_cases hlt : k < l.length
    · obtain ⟨g, off, rfl, d1⟩ := HA.out k hlt
      obtain ⟨g', off', rfl, d2⟩ := HB.out k hlt
      clear HA HB
      go_wp2_with fail
      go_quiet (fail)
      go_wp2_with fail
      go_roundw
      case rel => exact ⟨k + 1, by omega, by go_num, _, rfl⟩
      case measure => simp [intOf]; omega
    · obtain rfl : k = l.length := by omega
      clear HA HB
      go_wp2_with fail
      go_ret
      exact ⟨rfl, _, rfl⟩
end Go.Proofs.Ythelfalmjihkdaa
