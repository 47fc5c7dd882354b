
/- The law's step, of any kind (layer 23). No statement of the seat is proved here. -/
import Derived.Test.YtadbplbifjeghaaQxK
import Derived.Test.YtadbplbifjeghaaQwF
import Derived.Test.YtadbplbifjeghaaASeg
import Derived.Test.YtadbplbifjeghaaQwE
import Derived.Test.YtadbplbifjeghaaQyA
import Derived.Test.YtadbplbifjeghaaQyB
import Derived.Test.YtadbplbifjeghaaQyC
import Derived.Test.YtadbplbifjeghaaQyD
import Derived.Test.YtadbplbifjeghaaQyE
import Derived.Test.YtadbplbifjeghaaQyF
import Derived.Test.YtadbplbifjeghaaQzD
namespace Go.Proofs.Ytadbplbifjeghaa
open Go.RowKit

set_option maxRecDepth 100000 in
set_option maxHeartbeats 4000000 in
theorem step_e {w0 w : World} {x t b g c b2 g2 c2 : Nat} {lv : Value} {s r : Wd} (h : Wo w0 w x t b g c b2 g2 c2 lv [] s r) (kd on word : Int) (hkd : kd ≠ 0) :
    Calls Try.prog 7 #[.pointer (some ⟨x, 0, none⟩), .agg #[.int .i64 kd, .int .i64 on, .int .u64 word]] w fun er w' => er = .returned (.bool true) ∧ Wo w0 w' x t b g c b2 g2 c2 lv [] s r := by
  obtain ⟨a, k, hlv⟩ := h.form
  have hA := h.alloc (.cells #[.int .i64 kd, .int .i64 on, .int .u64 word] 35)
  have cx2 := hA.x2
  rw [hlv, List.length_nil] at cx2
  have hobj : (w.alloc (.cells #[.int .i64 kd, .int .i64 on, .int .u64 word] 35)).heap[w.heap.size]? = some (.cells #[.int .i64 kd, .int .i64 on, .int .u64 word] 35 (0, 0)) := alloc_block w _
  have ck := cell_of_block hobj 0
  have HA := hid hA
  clear h hA
  go_enter Try.func7, Try.ntmps7
  go_wp2_with fail
  go_ret
  exact ⟨rfl, HA.out⟩
set_option maxRecDepth 100000 in
set_option maxHeartbeats 4000000 in
theorem step_x {w0 w : World} {x t b g c b2 g2 c2 : Nat} {lv : Value} {A B : List Qe} {e : Qe} {s r : Wd} {N K : Int} (h : Wo w0 w x t b g c b2 g2 c2 lv (A ++ e :: B) s r) (_iv : Iv s r N (A ++ e :: B) K) (_hK : K + 4400000 < 4611686018427387904) (on word : Int) (kd : Int) (h0 : kd ≠ 0) (h1 : kd ≠ 1) (h2 : kd ≠ 2) (h3 : kd ≠ 3) (h4 : kd ≠ 4) (h5 : kd ≠ 5) (h6 : kd ≠ 6) (hon : (wrap64 (on.tmod ((A ++ e :: B).length : Int) + ((A ++ e :: B).length : Int))).tmod ((A ++ e :: B).length : Int) = (A.length : Int)) :
    Calls Try.prog 7 #[.pointer (some ⟨x, 0, none⟩), .agg #[.int .i64 kd, .int .i64 on, .int .u64 word]] w fun er w' => er = .returned (.bool true) ∧ Wo w0 w' x t b g c b2 g2 c2 lv (A ++ e :: B) s r := by
  obtain ⟨al, kl, hlv, hptr⟩ := h.ptr (i := A.length) (e := e) (by simp)
  obtain ⟨m, hm⟩ : ∃ m, (A ++ e :: B).length = m := ⟨_, rfl⟩
  have hjm : A.length < m := by rw [← hm]; simp
  rw [hm] at hlv hon
  subst hlv
  have hA := h.alloc (.cells #[.int .i64 kd, .int .i64 on, .int .u64 word] 35)
  have heA := hA.es e (by simp)
  have cx0 := hA.x0
  have cx1 := hA.x1
  have cx2 := hA.x2
  have ct := hA.tw.tx.cell
  have ce0 := heA.c0
  have cp : (w.alloc (.cells #[.int .i64 kd, .int .i64 on, .int .u64 word] 35)).cell? ⟨al, A.length, none⟩ = some (.pointer (some ⟨e.p, 0, none⟩)) := (World.cell?_of_block (Below.heap_alloc _ _ _ (World.block_lt_of_cell? _ _ hptr))).trans hptr
  have hm0 : (m : Int) ≠ 0 := by omega
  have hmj : (A.length : Int) < (m : Int) := by omega
  have HM := hid hm
  have HB0 := hid ((Keeps.refl (fun _ => False) w).alloc (.cells #[.int .i64 kd, .int .i64 on, .int .u64 word] 35))
  have hobj : (w.alloc (.cells #[.int .i64 kd, .int .i64 on, .int .u64 word] 35)).heap[w.heap.size]? = some (.cells #[.int .i64 kd, .int .i64 on, .int .u64 word] 35 (0, 0)) := alloc_block w _
  have HNF : Hid (w.heap.size ∉ ftp x t b g b2 g2 (.slice (some ⟨al, 0, none⟩) m kl) (A ++ e :: B)) := hid (fun q => by have := h.lt _ q; omega)
  have ck := cell_of_block hobj 0
  have HW := hid hA
  clear h _iv hA heA hptr
  go_enter Try.func7, Try.ntmps7
  go_wp2_with fail
  go_quiet (fail)
  go_wp2_with fail
  go_ret
  exact ⟨rfl, HW.out.drewN _⟩
theorem step_any {w0 w : World} {x t b g c b2 g2 c2 : Nat} {lv : Value} {E : List Qe} {s r : Wd} {N K : Int} (h : Wo w0 w x t b g c b2 g2 c2 lv E s r) (iv : Iv s r N E K) (hK : K + 4400000 < 4611686018427387904) (kd on word : Int) (hword : isW word) :
    Calls Try.prog 7 #[.pointer (some ⟨x, 0, none⟩), .agg #[.int .i64 kd, .int .i64 on, .int .u64 word]] w fun er w' => er = .returned (.bool true) ∧ ∃ lv' E' s' r', Wo w0 w' x t b g c b2 g2 c2 lv' E' s' r' ∧ Iv s' r' N E' (K + 400000) := by
  have hmany := iv.many
  by_cases h0 : kd = 0
  · subst h0
    exact (step_0 h iv hK (by omega) on word).mono fun er w' ⟨e, lv', E', s', r', _, _, q1, q2, _⟩ => ⟨e, lv', E', s', r', q1, q2⟩
  cases hE : E with
  | nil =>
    subst hE
    exact (step_e h kd on word h0).mono fun er w' ⟨e, q⟩ => ⟨e, lv, [], s, r, q, iv.more (by omega) (by omega)⟩
  | cons e0 E0 =>
    have hm0 : 0 < E.length := by rw [hE]; simp
    obtain ⟨j, hj, hjn⟩ := cyc on (E.length : Int) (by omega) (by omega)
    have hjl : j < E.length := by omega
    obtain ⟨A, e, B, hAB, hAl⟩ : ∃ A e B, E = A ++ e :: B ∧ A.length = j := ⟨E.take j, E[j], E.drop (j + 1), by rw [← List.drop_eq_getElem_cons hjl, List.take_append_drop], by simp; omega⟩
    clear hE
    subst hAB
    rw [← hAl] at hjn
    by_cases h1 : kd = 1
    · subst h1
      exact (step_1 h iv hK on word hword hjn).mono fun er w' ⟨e, lv', E', s', r', _, q1, q2, _⟩ => ⟨e, lv', E', s', r', q1, q2⟩
    by_cases h2 : kd = 2
    · subst h2
      cases hns : e.ns with
      | nil => exact (step_2n h iv hK on word hns hjn).mono fun er w' ⟨e, lv', E', s', r', _, q1, q2, _⟩ => ⟨e, lv', E', s', r', q1, q2⟩
      | cons n ns => exact (step_2y h iv hK on word hns hjn).mono fun er w' ⟨e, lv', E', s', r', _, q1, q2, _⟩ => ⟨e, lv', E', s', r', q1, q2⟩
    by_cases h3 : kd = 3
    · subst h3
      cases hns : e.ns with
      | nil => exact (step_3n h iv hK on word hns hjn).mono fun er w' ⟨e, s', q1, q2⟩ => ⟨e, _, _, s', _, q1, q2⟩
      | cons n ns => exact (step_3y h iv hK on word hns hjn).mono fun er w' ⟨e, s', q1, q2⟩ => ⟨e, _, _, s', _, q1, q2⟩
    by_cases h4 : kd = 4
    · subst h4
      exact (step_4 h iv hK on word hjn).mono fun er w' ⟨e, s', q1, q2⟩ => ⟨e, _, _, s', _, q1, q2⟩
    by_cases h5 : kd = 5
    · subst h5
      exact (step_5 h iv hK on word hjn).mono fun er w' ⟨e, s', q1, q2⟩ => ⟨e, _, _, s', _, q1, q2⟩
    by_cases h6 : kd = 6
    · subst h6
      exact (step_6 h iv hK on word hjn).mono fun er w' ⟨e, lv', s', r', q1, q2⟩ => ⟨e, lv', _, s', r', q1, q2⟩
    exact (step_x h iv hK on word kd h0 h1 h2 h3 h4 h5 h6 hjn).mono fun er w' ⟨e, q⟩ => ⟨e, _, _, _, _, q, iv.more (by omega) (by omega)⟩
end Go.Proofs.Ytadbplbifjeghaa
