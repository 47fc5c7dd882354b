
/- The walks of the statement's tx, and of room's functions that ask it once or twice. No statement of the seat is proved here. -/
import Derived.Test.YtadbplbifjeghaaQuB
import Derived.Test.YtadbplbifjeghaaATail
namespace Go.Proofs.Ytadbplbifjeghaa
open Go.RowKit

set_option maxHeartbeats 1000000 in
theorem tget_any (t b g c : Nat) (s : Wd) (a : Int) (ha : isW a) (w : World) (ht : TxAt w t b) (h : WdAt w b g c s) :
    Calls Try.prog 65 #[.pointer (some ⟨t, 0, none⟩), .int .u64 a] w fun e w' => e = .returned (.tuple #[.int .u64 (s.get a).1.1, .int .i64 (s.get a).1.2]) ∧ WdAt w' b g c (s.get a).2 ∧ Keeps (two b g) w w' := by
  have c0 := ht.cell
  go_enter Try.func65, Try.ntmps65
  go_wp2_with fail
  refine (wget_any b g c s a ha w h).mono ?_
  rintro e w1 ⟨rfl, h1, k1⟩
  clear h c0 ht
  go_wp2_with fail
  go_ret2
  exact ⟨rfl, h1, k1⟩
set_option maxHeartbeats 1000000 in
theorem tput_any (t b g c : Nat) (s : Wd) (a x : Int) (ha : isW a) (hx : isW x) (w : World) (ht : TxAt w t b) (h : WdAt w b g c s) :
    Calls Try.prog 66 #[.pointer (some ⟨t, 0, none⟩), .int .u64 a, .int .u64 x] w fun e w' => e = .returned (.int .i64 (s.put a x).1) ∧ WdAt w' b g c (s.put a x).2 ∧ Keeps (two b g) w w' := by
  have c0 := ht.cell
  go_enter Try.func66, Try.ntmps66
  go_wp2_with fail
  refine (wput_any b g c s a x ha hx w h).mono ?_
  rintro e w1 ⟨rfl, h1, k1⟩
  clear h c0 ht
  go_wp2_with fail
  go_ret
  exact ⟨rfl, h1, k1⟩
set_option maxHeartbeats 1000000 in
theorem may_yes (t : Nat) (n : Int) (hm : mayN n) (w : World) : Calls Try.prog 43 #[.iface 24 (.pointer (some ⟨t, 0, none⟩)), .int .u64 n] w fun e w' => e = .returned (.int .i64 0) ∧ w' = w := by
  obtain ⟨h1, h2⟩ := hm
  go_enter Try.func43, Try.ntmps43
  go_wp2_with fail
  go_ret
  exact ⟨rfl, rfl⟩
set_option maxHeartbeats 1000000 in
theorem may_no (t : Nat) (n : Int) (hm : ¬ mayN n) (w : World) : Calls Try.prog 43 #[.iface 24 (.pointer (some ⟨t, 0, none⟩)), .int .u64 n] w fun e w' => e = .returned (.int .i64 2) ∧ w' = w := by
  unfold mayN at hm
  by_cases h1 : n < 1
  · clear hm
    go_enter Try.func43, Try.ntmps43
    go_wp2_with fail
    go_ret
    exact ⟨rfl, rfl⟩
  · have h2 : 16 < n := by omega
    have h3 : 1 ≤ n := by omega
    clear hm h1
    go_enter Try.func43, Try.ntmps43
    go_wp2_with fail
    go_ret
    exact ⟨rfl, rfl⟩
theorem meth_get (t : Nat) (w : World) : (method 217 24 (.pointer (some ⟨t, 0, none⟩)) "Get").run Try.prog w = .ok (65, .pointer (some ⟨t, 0, none⟩)) w := by kernel_rfl
theorem meth_put (t : Nat) (w : World) : (method 217 24 (.pointer (some ⟨t, 0, none⟩)) "Put").run Try.prog w = .ok (66, .pointer (some ⟨t, 0, none⟩)) w := by kernel_rfl
theorem nil_get (t : Nat) (w : World) : (nilAhead 217 24 (.pointer (some ⟨t, 0, none⟩)) "Get").run Try.prog w = .ok (some false) w := by kernel_rfl
theorem nil_put (t : Nat) (w : World) : (nilAhead 217 24 (.pointer (some ⟨t, 0, none⟩)) "Put").run Try.prog w = .ok (some false) w := by kernel_rfl
/-- A tx and its words, as they lie, all apart. -/
structure Tw (w : World) (t b g c : Nat) (s : Wd) : Prop where
  tx : TxAt w t b
  wd : WdAt w b g c s
  ne : t ≠ g
theorem Tw.on {w w' : World} {t b g c : Nat} {s s' : Wd} (h : Tw w t b g c s) (k : Keeps (two b g) w w') (h' : WdAt w' b g c s') : Tw w' t b g c s' :=
  ⟨h.tx.kept k (fun e => by rcases e with e | e; exact h.tx.ne e; exact h.ne e), h', h.ne⟩

theorem Tw.drewN {w : World} {t b g c : Nat} {s : Wd} (h : Tw w t b g c s) (n : Nat) : Tw (w.drewN n) t b g c s := ⟨h.tx.drewN n, h.wd.drewN n, h.ne⟩
theorem Tw.like {w X : World} {t b g c : Nat} {s : Wd} (h : Tw w t b g c s) (e : X.heap = w.heap) : Tw X t b g c s := by
  obtain ⟨cur, h1, h2⟩ := h.wd.row
  exact ⟨⟨by rw [e]; exact h.tx.box, h.tx.ne⟩, ⟨by rw [e]; exact h.wd.box, ⟨cur, by rw [e]; exact h1, h2⟩, h.wd.ne, h.wd.ok⟩, h.ne⟩
theorem Keeps.like {S : Nat → Prop} {a w X : World} (k : Keeps S a w) (e1 : X.heap = w.heap) (e2 : X.os = w.os) (e3 : X.tape = w.tape) (e4 : X.output = w.output) : Keeps S a X :=
  ⟨e2.trans k.os, e3.trans k.tape, e4.trans k.output, by rw [e1]; exact k.size, fun i hi hs => by rw [e1]; exact k.block i hi hs⟩
theorem hid {p : Prop} (h : p) : Hid p := h
theorem tget_r {t b g c : Nat} {s : Wd} {a x e : Int} {s1 : Wd} (heq : Hid (s.get a = ((x, e), s1))) (ha : isW a) {w : World} (h : Tw w t b g c s) :
    Calls Try.prog 65 #[.pointer (some ⟨t, 0, none⟩), .int .u64 a] w fun r w' => r = .returned (.tuple #[.int .u64 x, .int .i64 e]) ∧ Tw w' t b g c s1 ∧ Keeps (two b g) w w' := by
  have hq := tget_any t b g c s a ha w h.tx h.wd
  rw [heq.out] at hq
  refine hq.mono ?_
  rintro r w1 ⟨rfl, h1, k1⟩
  exact ⟨rfl, h.on k1 h1, k1⟩
theorem tput_r {t b g c : Nat} {s : Wd} {a x e : Int} {s1 : Wd} (heq : Hid (s.put a x = (e, s1))) (ha : isW a) (hx : isW x) {w : World} (h : Tw w t b g c s) :
    Calls Try.prog 66 #[.pointer (some ⟨t, 0, none⟩), .int .u64 a, .int .u64 x] w fun r w' => r = .returned (.int .i64 e) ∧ Tw w' t b g c s1 ∧ Keeps (two b g) w w' := by
  have hq := tput_any t b g c s a x ha hx w h.tx h.wd
  rw [heq.out] at hq
  refine hq.mono ?_
  rintro r w1 ⟨rfl, h1, k1⟩
  exact ⟨rfl, h.on k1 h1, k1⟩
theorem wget_r {b g c : Nat} {s : Wd} {a x e : Int} {s1 : Wd} (heq : Hid (s.get a = ((x, e), s1))) (ha : isW a) {w : World} (h : WdAt w b g c s) :
    Calls Try.prog 30 #[.pointer (some ⟨b, 0, none⟩), .int .u64 a] w fun r w' => r = .returned (.tuple #[.int .u64 x, .int .i64 e]) ∧ WdAt w' b g c s1 ∧ Keeps (two b g) w w' := by
  have hq := wget_any b g c s a ha w h
  rw [heq.out] at hq
  exact hq
theorem wput_r {b g c : Nat} {s : Wd} {a x e : Int} {s1 : Wd} (heq : Hid (s.put a x = (e, s1))) (ha : isW a) (hx : isW x) {w : World} (h : WdAt w b g c s) :
    Calls Try.prog 33 #[.pointer (some ⟨b, 0, none⟩), .int .u64 a, .int .u64 x] w fun r w' => r = .returned (.int .i64 e) ∧ WdAt w' b g c s1 ∧ Keeps (two b g) w w' := by
  have hq := wput_any b g c s a x ha hx w h
  rw [heq.out] at hq
  exact hq
theorem get_isW {s : Wd} {a x e : Int} {s1 : Wd} (heq : s.get a = ((x, e), s1)) (h : s.Ok) : isW x := by
  have hq := (h.get a).2.1
  rw [heq] at hq
  exact hq
end Go.Proofs.Ytadbplbifjeghaa
