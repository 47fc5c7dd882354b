
/- What queue's New, Put and Take need besides: what a room's Take answers is a word; a row of words that was just laid (layer 23). No statement of the seat is proved here. -/
import Derived.Test.YtadbplbifjeghaaQuSM
import Derived.Test.YtadbplbifjeghaaQuDM
namespace Go.Proofs.Ytadbplbifjeghaa
open Go.RowKit

theorem free_isW {s : Wd} (h : s.Ok) (a : Int) : isW (s.free a).1.1 := by
  unfold Wd.free
  split
  · exact zero_isW
  · split
    · exact zero_isW
    · exact (h.get a).2.1
theorem take_isW {s : Wd} (h : s.Ok) (a n : Int) : isW (s.take a n).1.1 := by
  unfold Wd.take
  split
  · exact zero_isW
  · split
    · exact zero_isW
    · split
      · unfold Wd.takeN
        split
        · exact zero_isW
        · split
          · exact zero_isW
          · split
            · exact zero_isW
            · exact free_isW ((h.get _).1) _
      · unfold Wd.takeG
        split
        · exact zero_isW
        · split
          · exact zero_isW
          · exact uw_isW _
theorem blk_laid {w : World} (l : List Int) : Blk (w.alloc (.cells (wordsV l).toArray 33)) w.heap.size 33 l.length l :=
  ⟨_, alloc_block w _, by simp [wordsV], fun i hi => by simp [wordsV, oat, hi]⟩
theorem Tw.alloc {w : World} {t b g c : Nat} {s : Wd} (h : Tw w t b g c s) (o : Obj) : Tw (w.alloc o) t b g c s :=
  ⟨h.tx.kept ((Keeps.refl (fun _ => False) w).alloc o) (fun f => f), h.wd.kept ((Keeps.refl (fun _ => False) w).alloc o) (fun f => f) (fun f => f), h.ne⟩
theorem Tw.ltt {w : World} {t b g c : Nat} {s : Wd} (h : Tw w t b g c s) : t < w.heap.size ∧ b < w.heap.size ∧ g < w.heap.size := ⟨h.tx.lt, h.wd.ltb, h.wd.ltg⟩
/-- put, of a row that was just laid. -/
theorem qput_laid {t b g c : Nat} {s s1 : Wd} {a e1 : Int} (l : List Int) (heq : Hid (putsU a l s = (((), e1), s1))) (ha : isW a) (hl : ∀ i, isW (oat l i)) (hn : l.length ≤ 3) {w : World} (h : Tw w t b g c s) :
    Calls Try.prog 35 #[.iface 24 (.pointer (some ⟨t, 0, none⟩)), .int .u64 a, .slice (some ⟨w.heap.size, 0, none⟩) l.length l.length] (w.alloc (.cells (wordsV l).toArray 33)) fun e w' => e = .returned (.int .i64 e1) ∧ Tw w' t b g c s1 ∧ Keeps (two b g) w w' := by
  have q := qput_any t b g c s a ha l hl w.heap.size 33 hn (w.alloc (.cells (wordsV l).toArray 33)) (h.alloc _) (blk_laid l) (by have := h.ltt; omega)
  have e : s.puts a l = (e1, s1) := by
    have q := heq.out
    unfold putsU at q
    injection q with q1 q2
    injection q1 with q3 q4
    exact Prod.ext q4 q2
  rw [e] at q
  refine q.mono ?_
  rintro e_ w1 ⟨rfl, h1, k1⟩
  exact ⟨rfl, h1, ((Keeps.refl _ w).alloc _).trans k1⟩
theorem give_u {t b g c : Nat} {s s1 : Wd} {a p n e1 : Int} (heq : Hid (giveU a p n s = (((), e1), s1))) (hp : isW p) {w : World} (h : Tw w t b g c s) :
    Calls Try.prog 32 #[.iface 24 (.pointer (some ⟨t, 0, none⟩)), .int .u64 a, .int .u64 p, .int .u64 n] w fun e w' => e = .returned (.int .i64 e1) ∧ Tw w' t b g c s1 ∧ Keeps (two b g) w w' := by
  refine give_r (hid ?_) hp h
  have q := heq.out
  unfold giveU at q
  injection q with q1 q2
  injection q1 with q3 q4
  exact Prod.ext q4 q2
/-- get, into a row that was just laid. -/
theorem qget_laid {t b g c : Nat} {s s1 : Wd} {a e1 : Int} (n : Nat) (ty : TypeId) (cs : Array Value) (hcs : cs.size = n) {l : List Int} (heq : Hid (getsF a n s = ((l, e1), s1))) (ha : isW a) (hn : n ≤ 3) {w : World} (h : Tw w t b g c s) :
    Calls Try.prog 39 #[.iface 24 (.pointer (some ⟨t, 0, none⟩)), .int .u64 a, .slice (some ⟨w.heap.size, 0, none⟩) n n] (w.alloc (.cells cs ty)) fun e w' => e = .returned (.int .i64 e1) ∧ Tw w' t b g c s1 ∧ Keeps (two b g) w w' ∧ (e1 = 0 → Blk w' w.heap.size ty n l) := by
  have q := qget_any t b g c s a ha w.heap.size n ty hn (w.alloc (.cells cs ty)) (h.alloc _) ⟨cs, alloc_block w _, hcs, fun i hi => by simp at hi⟩ (by have := h.ltt; omega)
  have e : s.gets a n = ((l, e1), s1) := heq.out
  rw [e] at q
  refine q.mono ?_
  rintro e_ w1 ⟨rfl, h1, k1, _, h3⟩
  exact ⟨rfl, h1, ((Keeps.refl (two b g) w).alloc _).step k1 (fun i hi q => by rcases q with q | q; omega; exact q), h3⟩
theorem qget_laid_q {t b g c : Nat} {s s1 : Wd} {a e1 : Int} (m n : Nat) (ty : TypeId) (cs : Array Value) (hcs : cs.size = n) {l : List Int} (heq : Hid (getsF a n s = ((l, e1), s1))) (ha : isW a) (hn : n ≤ 3) {w : World} (h : Tw w t b g c s) :
    Calls Try.prog 39 #[.iface 24 (.pointer (some ⟨t, 0, none⟩)), .int .u64 a, .slice (some ⟨w.heap.size, 0, none⟩) n n] ((w.alloc (.cells cs ty)).drewN m) fun e w' => e = .returned (.int .i64 e1) ∧ Tw w' t b g c s1 ∧ Keeps (two b g) w w' ∧ (e1 = 0 → Blk w' w.heap.size ty n l) := by
  have q := qget_any t b g c s a ha w.heap.size n ty hn ((w.alloc (.cells cs ty)).drewN m) ((h.alloc _).drewN m) ⟨cs, alloc_block w _, hcs, fun i hi => by simp at hi⟩ (by have := h.ltt; omega)
  have e : s.gets a n = ((l, e1), s1) := heq.out
  rw [e] at q
  refine q.mono ?_
  rintro e_ w1 ⟨rfl, h1, k1, _, h3⟩
  exact ⟨rfl, h1, (((Keeps.refl (two b g) w).alloc _).drewN m).step k1 (fun i hi q => by rcases q with q | q; omega; exact q), h3⟩
theorem gets_isW {s : Wd} (h : s.Ok) (a : Int) (n : Nat) {l : List Int} {s1 : Wd} (e : getsF a n s = ((l, 0), s1)) : l.length = n ∧ ∀ i, isW (oat l i) := by
  have q := (getK_oks a h n).2
  have e' : getK a s n = ((l, 0), s1) := e
  rw [e'] at q
  exact ⟨(q rfl).1, oat_isW (q rfl).2⟩
end Go.Proofs.Ytadbplbifjeghaa
