
/- Walks of built (package code). No statement of the seat is proved here. -/
import Derived.Test.YtijommlodgpphaaDoorCdG
namespace Go.Proofs.YtijommlodgpphaaDoor
open Go.RowKit Go.Shelf

/-- The instruction behind whose operation these numbers stand. -/
def insOf (op : Int) (N : List Int) : I5 := ⟨op, if 0 < regsN op then (N[0]?).getD 0 else 0, if 1 < regsN op then (N[1]?).getD 0 else 0, if 2 < regsN op then (N[2]?).getD 0 else 0, if numB op then (N[regsN op]?).getD 0 else 0⟩
def regOk (op : Int) (N : List Int) : Bool := (N.take (regsN op)).all fun x => decide (x < 8)
/-- What built answers. -/
def UPost (op : Int) (N : List Int) (e : Ending) : Prop := (regOk op N = true → e = .returned (.tuple #[.agg (insOf op N).cells, .bool true])) ∧ (regOk op N = false → e = .returned (.tuple #[.agg #[.int .i64 0, .int .i64 0, .int .i64 0, .int .i64 0, .int .u64 0], .bool false]))
def ptrs (b : Nat) : Array Value := #[.pointer (some ⟨b, 1, none⟩), .pointer (some ⟨b, 2, none⟩), .pointer (some ⟨b, 3, none⟩)]
def z5 : Array Value := #[.int .i64 0, .int .i64 0, .int .i64 0, .int .i64 0, .int .u64 0]

set_option maxRecDepth 100000 in
set_option maxHeartbeats 2000000 in
theorem built_0f (op : Int)  (w : World) (q : Nat) (hq : q < w.heap.size) (tb : Bool) (hr : regsN op = 0) (hnb : numB op = false)
    (R : ∀ w, Calls Tryd.prog 27 #[.int .i64 op] w fun e w' => e = .returned (.int .i64 0) ∧ w' = w)
    (NN : ∀ w, Calls Tryd.prog 26 #[.int .i64 op] w fun e w' => e = .returned (.tuple #[.bool false, .bool tb]) ∧ w' = w)  :
    Calls Tryd.prog 22 #[.int .i64 op, .slice (some ⟨q, 0, none⟩) 0 0] w fun e w' => UPost op [] e ∧ Keeps (fun _ => False) w w' := by
  have UY : Hid (True → UPost op [] (.returned (.tuple #[.agg #[.int .i64 op, .int .i64 0, .int .i64 0, .int .i64 0, .int .u64 0], .bool true]))) := fun hh => by
    refine ⟨fun _ => by simp [insOf, hr, hnb], fun h => ?_⟩
    simp [regOk, hr] at h
    try omega
  have UN : Hid (False → UPost op [] (.returned (.tuple #[.agg #[.int .i64 0, .int .i64 0, .int .i64 0, .int .i64 0, .int .u64 0], .bool false]))) := fun hh => by
    first
    | exact hh.elim
    | (refine ⟨fun h => ?_, fun _ => rfl⟩
       simp [regOk, hr] at h
       omega)
  have lt1 : q < w.heap.size + 1 := by omega
  have lt2 : q < w.heap.size + 1 + 1 := by omega
  clear hr hnb
  go_enter Tryd.func22, Tryd.ntmps22
  go_wp2_with (go_at_call 27; refine (R _).mono ?_; rintro e w' ⟨rfl, rfl⟩)
  go_loopw [23] (fun v wr => (v = .int .i64 0 ∧ wr = ((w.alloc (.cells z5 38)).alloc (.cells #[.int .i64 op, .int .i64 0, .int .i64 0, .int .i64 0, .int .u64 0] 38)).alloc (.cells (ptrs (w.heap.size + 1)) 77))) (fun v _ => 0 - (intOf v).toNat)
  case atStart => exact ⟨rfl, rfl⟩
  case round =>
    obtain ⟨rfl, rfl⟩ := hrel
    unfold ptrs z5
    have kk := (((Keeps.refl (fun _ => False) w).alloc (.cells #[.int .i64 op, .int .i64 0, .int .i64 0, .int .i64 0, .int .u64 0] 38)).alloc (.cells #[.int .i64 op, .int .i64 0, .int .i64 0, .int .i64 0, .int .u64 0] 38)).alloc (.cells (ptrs (w.heap.size + 1)) 77)
    go_wp2_with (first | (go_at_call 26; refine (NN _).mono ?_; rintro e w' ⟨rfl, rfl⟩) | (go_at_call 27; refine (R _).mono ?_; rintro e w' ⟨rfl, rfl⟩))
    refine ⟨rfl, .tuple #[.agg #[.int .i64 op, .int .i64 0, .int .i64 0, .int .i64 0, .int .u64 0], .bool true], ?_, UY.out trivial, kk⟩
    simp [results, Tryd.f22, go_sem]

set_option maxRecDepth 100000 in
set_option maxHeartbeats 2000000 in
theorem built_0t (op : Int) (x : Int) (w : World) (q : Nat) (hq : q < w.heap.size) (tb : Bool) (hr : regsN op = 0) (hnb : numB op = true)
    (R : ∀ w, Calls Tryd.prog 27 #[.int .i64 op] w fun e w' => e = .returned (.int .i64 0) ∧ w' = w)
    (NN : ∀ w, Calls Tryd.prog 26 #[.int .i64 op] w fun e w' => e = .returned (.tuple #[.bool true, .bool tb]) ∧ w' = w) (cx : w.cell? ⟨q, 0, none⟩ = some (.int .u64 x)) :
    Calls Tryd.prog 22 #[.int .i64 op, .slice (some ⟨q, 0, none⟩) 1 1] w fun e w' => UPost op [x] e ∧ Keeps (fun _ => False) w w' := by
  have UY : Hid (True → UPost op [x] (.returned (.tuple #[.agg #[.int .i64 op, .int .i64 0, .int .i64 0, .int .i64 0, .int .u64 x], .bool true]))) := fun hh => by
    refine ⟨fun _ => by simp [insOf, hr, hnb], fun h => ?_⟩
    simp [regOk, hr] at h
    try omega
  have UN : Hid (False → UPost op [x] (.returned (.tuple #[.agg #[.int .i64 0, .int .i64 0, .int .i64 0, .int .i64 0, .int .u64 0], .bool false]))) := fun hh => by
    first
    | exact hh.elim
    | (refine ⟨fun h => ?_, fun _ => rfl⟩
       simp [regOk, hr] at h
       omega)
  have lt1 : q < w.heap.size + 1 := by omega
  have lt2 : q < w.heap.size + 1 + 1 := by omega
  clear hr hnb
  go_enter Tryd.func22, Tryd.ntmps22
  go_wp2_with (go_at_call 27; refine (R _).mono ?_; rintro e w' ⟨rfl, rfl⟩)
  go_loopw [23] (fun v wr => (v = .int .i64 0 ∧ wr = ((w.alloc (.cells z5 38)).alloc (.cells #[.int .i64 op, .int .i64 0, .int .i64 0, .int .i64 0, .int .u64 0] 38)).alloc (.cells (ptrs (w.heap.size + 1)) 77))) (fun v _ => 0 - (intOf v).toNat)
  case atStart => exact ⟨rfl, rfl⟩
  case round =>
    obtain ⟨rfl, rfl⟩ := hrel
    unfold ptrs z5
    have kk := (((Keeps.refl (fun _ => False) w).alloc (.cells #[.int .i64 op, .int .i64 0, .int .i64 0, .int .i64 0, .int .u64 x] 38)).alloc (.cells #[.int .i64 op, .int .i64 0, .int .i64 0, .int .i64 0, .int .u64 x] 38)).alloc (.cells (ptrs (w.heap.size + 1)) 77)
    go_wp2_with (first | (go_at_call 26; refine (NN _).mono ?_; rintro e w' ⟨rfl, rfl⟩) | (go_at_call 27; refine (R _).mono ?_; rintro e w' ⟨rfl, rfl⟩))
    refine ⟨rfl, .tuple #[.agg #[.int .i64 op, .int .i64 0, .int .i64 0, .int .i64 0, .int .u64 x], .bool true], ?_, UY.out trivial, kk⟩
    simp [results, Tryd.f22, go_sem]

set_option maxRecDepth 100000 in
set_option maxHeartbeats 2000000 in
theorem built_1t (op : Int) (x y : Int) (hx0 : 0 ≤ x) (hx1 : x < 18446744073709551616) (w : World) (q : Nat) (hq : q < w.heap.size) (tb : Bool) (hr : regsN op = 1) (hnb : numB op = true)
    (R : ∀ w, Calls Tryd.prog 27 #[.int .i64 op] w fun e w' => e = .returned (.int .i64 1) ∧ w' = w)
    (NN : ∀ w, Calls Tryd.prog 26 #[.int .i64 op] w fun e w' => e = .returned (.tuple #[.bool true, .bool tb]) ∧ w' = w) (cx : w.cell? ⟨q, 0, none⟩ = some (.int .u64 x)) (cy : w.cell? ⟨q, 1, none⟩ = some (.int .u64 y)) :
    Calls Tryd.prog 22 #[.int .i64 op, .slice (some ⟨q, 0, none⟩) 2 2] w fun e w' => UPost op [x, y] e ∧ Keeps (fun _ => False) w w' := by
  have UY : Hid (True ∧ x < 8 → UPost op [x, y] (.returned (.tuple #[.agg #[.int .i64 op, .int .i64 x, .int .i64 0, .int .i64 0, .int .u64 y], .bool true]))) := fun hh => by
    refine ⟨fun _ => by simp [insOf, hr, hnb], fun h => ?_⟩
    simp [regOk, hr] at h
    try omega
  have UN : Hid (8 ≤ x → UPost op [x, y] (.returned (.tuple #[.agg #[.int .i64 0, .int .i64 0, .int .i64 0, .int .i64 0, .int .u64 0], .bool false]))) := fun hh => by
    first
    | exact hh.elim
    | (refine ⟨fun h => ?_, fun _ => rfl⟩
       simp [regOk, hr] at h
       omega)
  have lt1 : q < w.heap.size + 1 := by omega
  have lt2 : q < w.heap.size + 1 + 1 := by omega
  clear hr hnb
  go_enter Tryd.func22, Tryd.ntmps22
  go_wp2_with (go_at_call 27; refine (R _).mono ?_; rintro e w' ⟨rfl, rfl⟩)
  go_loopw [23] (fun v wr => (v = .int .i64 0 ∧ wr = ((w.alloc (.cells z5 38)).alloc (.cells #[.int .i64 op, .int .i64 0, .int .i64 0, .int .i64 0, .int .u64 0] 38)).alloc (.cells (ptrs (w.heap.size + 1)) 77)) ∨ (v = .int .i64 1 ∧ wr = ((w.alloc (.cells z5 38)).alloc (.cells #[.int .i64 op, .int .i64 x, .int .i64 0, .int .i64 0, .int .u64 0] 38)).alloc (.cells (ptrs (w.heap.size + 1)) 77) ∧ x < 8)) (fun v _ => 1 - (intOf v).toNat)
  case atStart => exact .inl ⟨rfl, rfl⟩
  case round =>
    rcases hrel with ⟨rfl, rfl⟩ | ⟨rfl, rfl, gx⟩
    · by_cases g : x < 8
      · have g' : ¬ 8 ≤ x := by omega
        unfold ptrs z5
        go_wp2_with fail
        go_roundw
        · exact .inr (⟨rfl, by first | rfl | trivial, g⟩)
        · decide
      · have g' : 8 ≤ x := by omega
        unfold ptrs z5
        have kk := (((Keeps.refl (fun _ => False) w).alloc (.cells z5 38)).alloc (.cells #[.int .i64 op, .int .i64 0, .int .i64 0, .int .i64 0, .int .u64 0] 38)).alloc (.cells (ptrs (w.heap.size + 1)) 77)
        go_wp2_with fail
        refine ⟨rfl, .tuple #[.agg #[.int .i64 0, .int .i64 0, .int .i64 0, .int .i64 0, .int .u64 0], .bool false], ?_, UN.out (by omega), kk⟩
        simp [results, Tryd.f22, go_sem]
    · unfold ptrs z5
      have kk := (((Keeps.refl (fun _ => False) w).alloc (.cells #[.int .i64 op, .int .i64 x, .int .i64 0, .int .i64 0, .int .u64 y] 38)).alloc (.cells #[.int .i64 op, .int .i64 x, .int .i64 0, .int .i64 0, .int .u64 y] 38)).alloc (.cells (ptrs (w.heap.size + 1)) 77)
      go_wp2_with (first | (go_at_call 26; refine (NN _).mono ?_; rintro e w' ⟨rfl, rfl⟩) | (go_at_call 27; refine (R _).mono ?_; rintro e w' ⟨rfl, rfl⟩))
      refine ⟨rfl, .tuple #[.agg #[.int .i64 op, .int .i64 x, .int .i64 0, .int .i64 0, .int .u64 y], .bool true], ?_, UY.out ⟨trivial, gx⟩, kk⟩
      simp [results, Tryd.f22, go_sem]

set_option maxRecDepth 100000 in
set_option maxHeartbeats 2000000 in
theorem built_2f (op : Int) (x y : Int) (hx0 : 0 ≤ x) (hx1 : x < 18446744073709551616) (hy0 : 0 ≤ y) (hy1 : y < 18446744073709551616) (w : World) (q : Nat) (hq : q < w.heap.size) (tb : Bool) (hr : regsN op = 2) (hnb : numB op = false)
    (R : ∀ w, Calls Tryd.prog 27 #[.int .i64 op] w fun e w' => e = .returned (.int .i64 2) ∧ w' = w)
    (NN : ∀ w, Calls Tryd.prog 26 #[.int .i64 op] w fun e w' => e = .returned (.tuple #[.bool false, .bool tb]) ∧ w' = w) (cx : w.cell? ⟨q, 0, none⟩ = some (.int .u64 x)) (cy : w.cell? ⟨q, 1, none⟩ = some (.int .u64 y)) :
    Calls Tryd.prog 22 #[.int .i64 op, .slice (some ⟨q, 0, none⟩) 2 2] w fun e w' => UPost op [x, y] e ∧ Keeps (fun _ => False) w w' := by
  have UY : Hid (True ∧ x < 8 ∧ y < 8 → UPost op [x, y] (.returned (.tuple #[.agg #[.int .i64 op, .int .i64 x, .int .i64 y, .int .i64 0, .int .u64 0], .bool true]))) := fun hh => by
    refine ⟨fun _ => by simp [insOf, hr, hnb], fun h => ?_⟩
    simp [regOk, hr] at h
    try omega
  have UN : Hid (8 ≤ x ∨ 8 ≤ y → UPost op [x, y] (.returned (.tuple #[.agg #[.int .i64 0, .int .i64 0, .int .i64 0, .int .i64 0, .int .u64 0], .bool false]))) := fun hh => by
    first
    | exact hh.elim
    | (refine ⟨fun h => ?_, fun _ => rfl⟩
       simp [regOk, hr] at h
       omega)
  have lt1 : q < w.heap.size + 1 := by omega
  have lt2 : q < w.heap.size + 1 + 1 := by omega
  clear hr hnb
  go_enter Tryd.func22, Tryd.ntmps22
  go_wp2_with (go_at_call 27; refine (R _).mono ?_; rintro e w' ⟨rfl, rfl⟩)
  go_loopw [23] (fun v wr => (v = .int .i64 0 ∧ wr = ((w.alloc (.cells z5 38)).alloc (.cells #[.int .i64 op, .int .i64 0, .int .i64 0, .int .i64 0, .int .u64 0] 38)).alloc (.cells (ptrs (w.heap.size + 1)) 77)) ∨ (v = .int .i64 1 ∧ wr = ((w.alloc (.cells z5 38)).alloc (.cells #[.int .i64 op, .int .i64 x, .int .i64 0, .int .i64 0, .int .u64 0] 38)).alloc (.cells (ptrs (w.heap.size + 1)) 77) ∧ x < 8) ∨ (v = .int .i64 2 ∧ wr = ((w.alloc (.cells z5 38)).alloc (.cells #[.int .i64 op, .int .i64 x, .int .i64 y, .int .i64 0, .int .u64 0] 38)).alloc (.cells (ptrs (w.heap.size + 1)) 77) ∧ x < 8 ∧ y < 8)) (fun v _ => 2 - (intOf v).toNat)
  case atStart => exact .inl ⟨rfl, rfl⟩
  case round =>
    rcases hrel with ⟨rfl, rfl⟩ | ⟨rfl, rfl, gx⟩ | ⟨rfl, rfl, gx, gy⟩
    · by_cases g : x < 8
      · have g' : ¬ 8 ≤ x := by omega
        unfold ptrs z5
        go_wp2_with fail
        go_roundw
        · exact .inr (.inl ⟨rfl, by first | rfl | trivial, g⟩)
        · decide
      · have g' : 8 ≤ x := by omega
        unfold ptrs z5
        have kk := (((Keeps.refl (fun _ => False) w).alloc (.cells z5 38)).alloc (.cells #[.int .i64 op, .int .i64 0, .int .i64 0, .int .i64 0, .int .u64 0] 38)).alloc (.cells (ptrs (w.heap.size + 1)) 77)
        go_wp2_with fail
        refine ⟨rfl, .tuple #[.agg #[.int .i64 0, .int .i64 0, .int .i64 0, .int .i64 0, .int .u64 0], .bool false], ?_, UN.out (by omega), kk⟩
        simp [results, Tryd.f22, go_sem]
    · by_cases g : y < 8
      · have g' : ¬ 8 ≤ y := by omega
        unfold ptrs z5
        go_wp2_with fail
        go_roundw
        · exact .inr (.inr (⟨rfl, by first | rfl | trivial, gx, g⟩))
        · decide
      · have g' : 8 ≤ y := by omega
        unfold ptrs z5
        have kk := (((Keeps.refl (fun _ => False) w).alloc (.cells z5 38)).alloc (.cells #[.int .i64 op, .int .i64 x, .int .i64 0, .int .i64 0, .int .u64 0] 38)).alloc (.cells (ptrs (w.heap.size + 1)) 77)
        go_wp2_with fail
        refine ⟨rfl, .tuple #[.agg #[.int .i64 0, .int .i64 0, .int .i64 0, .int .i64 0, .int .u64 0], .bool false], ?_, UN.out (by omega), kk⟩
        simp [results, Tryd.f22, go_sem]
    · unfold ptrs z5
      have kk := (((Keeps.refl (fun _ => False) w).alloc (.cells #[.int .i64 op, .int .i64 x, .int .i64 y, .int .i64 0, .int .u64 0] 38)).alloc (.cells #[.int .i64 op, .int .i64 x, .int .i64 y, .int .i64 0, .int .u64 0] 38)).alloc (.cells (ptrs (w.heap.size + 1)) 77)
      go_wp2_with (first | (go_at_call 26; refine (NN _).mono ?_; rintro e w' ⟨rfl, rfl⟩) | (go_at_call 27; refine (R _).mono ?_; rintro e w' ⟨rfl, rfl⟩))
      refine ⟨rfl, .tuple #[.agg #[.int .i64 op, .int .i64 x, .int .i64 y, .int .i64 0, .int .u64 0], .bool true], ?_, UY.out ⟨trivial, gx, gy⟩, kk⟩
      simp [results, Tryd.f22, go_sem]

set_option maxRecDepth 100000 in
set_option maxHeartbeats 2000000 in
theorem built_3f (op : Int) (x y z : Int) (hx0 : 0 ≤ x) (hx1 : x < 18446744073709551616) (hy0 : 0 ≤ y) (hy1 : y < 18446744073709551616) (hz0 : 0 ≤ z) (hz1 : z < 18446744073709551616) (w : World) (q : Nat) (hq : q < w.heap.size) (tb : Bool) (hr : regsN op = 3) (hnb : numB op = false)
    (R : ∀ w, Calls Tryd.prog 27 #[.int .i64 op] w fun e w' => e = .returned (.int .i64 3) ∧ w' = w)
    (NN : ∀ w, Calls Tryd.prog 26 #[.int .i64 op] w fun e w' => e = .returned (.tuple #[.bool false, .bool tb]) ∧ w' = w) (cx : w.cell? ⟨q, 0, none⟩ = some (.int .u64 x)) (cy : w.cell? ⟨q, 1, none⟩ = some (.int .u64 y)) (cz : w.cell? ⟨q, 2, none⟩ = some (.int .u64 z)) :
    Calls Tryd.prog 22 #[.int .i64 op, .slice (some ⟨q, 0, none⟩) 3 3] w fun e w' => UPost op [x, y, z] e ∧ Keeps (fun _ => False) w w' := by
  have UY : Hid (True ∧ x < 8 ∧ y < 8 ∧ z < 8 → UPost op [x, y, z] (.returned (.tuple #[.agg #[.int .i64 op, .int .i64 x, .int .i64 y, .int .i64 z, .int .u64 0], .bool true]))) := fun hh => by
    refine ⟨fun _ => by simp [insOf, hr, hnb], fun h => ?_⟩
    simp [regOk, hr] at h
    try omega
  have UN : Hid (8 ≤ x ∨ 8 ≤ y ∨ 8 ≤ z → UPost op [x, y, z] (.returned (.tuple #[.agg #[.int .i64 0, .int .i64 0, .int .i64 0, .int .i64 0, .int .u64 0], .bool false]))) := fun hh => by
    first
    | exact hh.elim
    | (refine ⟨fun h => ?_, fun _ => rfl⟩
       simp [regOk, hr] at h
       omega)
  have lt1 : q < w.heap.size + 1 := by omega
  have lt2 : q < w.heap.size + 1 + 1 := by omega
  clear hr hnb
  go_enter Tryd.func22, Tryd.ntmps22
  go_wp2_with (go_at_call 27; refine (R _).mono ?_; rintro e w' ⟨rfl, rfl⟩)
  go_loopw [23] (fun v wr => (v = .int .i64 0 ∧ wr = ((w.alloc (.cells z5 38)).alloc (.cells #[.int .i64 op, .int .i64 0, .int .i64 0, .int .i64 0, .int .u64 0] 38)).alloc (.cells (ptrs (w.heap.size + 1)) 77)) ∨ (v = .int .i64 1 ∧ wr = ((w.alloc (.cells z5 38)).alloc (.cells #[.int .i64 op, .int .i64 x, .int .i64 0, .int .i64 0, .int .u64 0] 38)).alloc (.cells (ptrs (w.heap.size + 1)) 77) ∧ x < 8) ∨ (v = .int .i64 2 ∧ wr = ((w.alloc (.cells z5 38)).alloc (.cells #[.int .i64 op, .int .i64 x, .int .i64 y, .int .i64 0, .int .u64 0] 38)).alloc (.cells (ptrs (w.heap.size + 1)) 77) ∧ x < 8 ∧ y < 8) ∨ (v = .int .i64 3 ∧ wr = ((w.alloc (.cells z5 38)).alloc (.cells #[.int .i64 op, .int .i64 x, .int .i64 y, .int .i64 z, .int .u64 0] 38)).alloc (.cells (ptrs (w.heap.size + 1)) 77) ∧ x < 8 ∧ y < 8 ∧ z < 8)) (fun v _ => 3 - (intOf v).toNat)
  case atStart => exact .inl ⟨rfl, rfl⟩
  case round =>
    rcases hrel with ⟨rfl, rfl⟩ | ⟨rfl, rfl, gx⟩ | ⟨rfl, rfl, gx, gy⟩ | ⟨rfl, rfl, gx, gy, gz⟩
    · by_cases g : x < 8
      · have g' : ¬ 8 ≤ x := by omega
        unfold ptrs z5
        go_wp2_with fail
        go_roundw
        · exact .inr (.inl ⟨rfl, by first | rfl | trivial, g⟩)
        · decide
      · have g' : 8 ≤ x := by omega
        unfold ptrs z5
        have kk := (((Keeps.refl (fun _ => False) w).alloc (.cells z5 38)).alloc (.cells #[.int .i64 op, .int .i64 0, .int .i64 0, .int .i64 0, .int .u64 0] 38)).alloc (.cells (ptrs (w.heap.size + 1)) 77)
        go_wp2_with fail
        refine ⟨rfl, .tuple #[.agg #[.int .i64 0, .int .i64 0, .int .i64 0, .int .i64 0, .int .u64 0], .bool false], ?_, UN.out (by omega), kk⟩
        simp [results, Tryd.f22, go_sem]
    · by_cases g : y < 8
      · have g' : ¬ 8 ≤ y := by omega
        unfold ptrs z5
        go_wp2_with fail
        go_roundw
        · exact .inr (.inr (.inl ⟨rfl, by first | rfl | trivial, gx, g⟩))
        · decide
      · have g' : 8 ≤ y := by omega
        unfold ptrs z5
        have kk := (((Keeps.refl (fun _ => False) w).alloc (.cells z5 38)).alloc (.cells #[.int .i64 op, .int .i64 x, .int .i64 0, .int .i64 0, .int .u64 0] 38)).alloc (.cells (ptrs (w.heap.size + 1)) 77)
        go_wp2_with fail
        refine ⟨rfl, .tuple #[.agg #[.int .i64 0, .int .i64 0, .int .i64 0, .int .i64 0, .int .u64 0], .bool false], ?_, UN.out (by omega), kk⟩
        simp [results, Tryd.f22, go_sem]
    · by_cases g : z < 8
      · have g' : ¬ 8 ≤ z := by omega
        unfold ptrs z5
        go_wp2_with fail
        go_roundw
        · exact .inr (.inr (.inr (⟨rfl, by first | rfl | trivial, gx, gy, g⟩)))
        · decide
      · have g' : 8 ≤ z := by omega
        unfold ptrs z5
        have kk := (((Keeps.refl (fun _ => False) w).alloc (.cells z5 38)).alloc (.cells #[.int .i64 op, .int .i64 x, .int .i64 y, .int .i64 0, .int .u64 0] 38)).alloc (.cells (ptrs (w.heap.size + 1)) 77)
        go_wp2_with fail
        refine ⟨rfl, .tuple #[.agg #[.int .i64 0, .int .i64 0, .int .i64 0, .int .i64 0, .int .u64 0], .bool false], ?_, UN.out (by omega), kk⟩
        simp [results, Tryd.f22, go_sem]
    · unfold ptrs z5
      have kk := (((Keeps.refl (fun _ => False) w).alloc (.cells #[.int .i64 op, .int .i64 x, .int .i64 y, .int .i64 z, .int .u64 0] 38)).alloc (.cells #[.int .i64 op, .int .i64 x, .int .i64 y, .int .i64 z, .int .u64 0] 38)).alloc (.cells (ptrs (w.heap.size + 1)) 77)
      go_wp2_with (first | (go_at_call 26; refine (NN _).mono ?_; rintro e w' ⟨rfl, rfl⟩) | (go_at_call 27; refine (R _).mono ?_; rintro e w' ⟨rfl, rfl⟩))
      refine ⟨rfl, .tuple #[.agg #[.int .i64 op, .int .i64 x, .int .i64 y, .int .i64 z, .int .u64 0], .bool true], ?_, UY.out ⟨trivial, gx, gy, gz⟩, kk⟩
      simp [results, Tryd.f22, go_sem]

theorem u64s_cell {w : World} {q : Nat} {N : List Int} (h : w.heap[q]? = some (.cells (u64s N) 36 (0, 0))) {k : Nat} (hk : k < N.length) : w.cell? ⟨q, k, none⟩ = some (.int .u64 ((N[k]?).getD 0)) := by
  rw [cell_of_block h, u64s_get _ _ hk]

theorem len_two {N : List Int} (h : N.length = 2) : ∃ x y, N = [x, y] := by
  match N, h with
  | [x, y], _ => exact ⟨x, y, rfl⟩
theorem len_three {N : List Int} (h : N.length = 3) : ∃ x y z, N = [x, y, z] := by
  match N, h with
  | [x, y, z], _ => exact ⟨x, y, z, rfl⟩
/-- built, for every operation. -/
theorem built_any (op : Int) (h0 : 1 ≤ op) (h1 : op ≤ 17) (N : List Int) (hN : N.length = partsN op) (hb : ∀ x ∈ N, 0 ≤ x ∧ x < 18446744073709551616) (w : World) (q : Nat) (h : w.heap[q]? = some (.cells (u64s N) 36 (0, 0))) :
    Calls Tryd.prog 22 #[.int .i64 op, .slice (some ⟨q, 0, none⟩) N.length N.length] w fun e w' => UPost op N e ∧ Keeps (fun _ => False) w w' := by
  have R := regs_any op h0 h1
  have NN := number_any op h0 h1
  have hq := lt_of_block h
  have hrn : (regsN op = 0 ∧ numB op = false) ∨ (regsN op = 0 ∧ numB op = true) ∨ (regsN op = 1 ∧ numB op = true) ∨ (regsN op = 2 ∧ numB op = false) ∨ (regsN op = 3 ∧ numB op = false) := by
    rcases op17 h0 h1 with rfl | rfl | rfl | rfl | rfl | rfl | rfl | rfl | rfl | rfl | rfl | rfl | rfl | rfl | rfl | rfl | rfl <;> decide
  unfold partsN at hN
  rcases hrn with ⟨hr, hn⟩ | ⟨hr, hn⟩ | ⟨hr, hn⟩ | ⟨hr, hn⟩ | ⟨hr, hn⟩
  all_goals rw [hr, hn] at hN; rw [hr] at R; rw [hn] at NN
  · obtain rfl : N = [] := by simpa using hN
    exact built_0f op w q hq _ hr hn R NN
  · obtain ⟨x, rfl⟩ : ∃ x, N = [x] := List.length_eq_one_iff.1 (by simpa using hN)
    exact built_0t op x w q hq _ hr hn R NN (u64s_cell h (k := 0) (by simp))
  · obtain ⟨x, y, rfl⟩ := len_two (by simpa using hN)
    have hx := hb x (by simp)
    exact built_1t op x y hx.1 hx.2 w q hq _ hr hn R NN (u64s_cell h (k := 0) (by simp)) (u64s_cell h (k := 1) (by simp))
  · obtain ⟨x, y, rfl⟩ := len_two (by simpa using hN)
    have hx := hb x (by simp)
    have hy := hb y (by simp)
    exact built_2f op x y hx.1 hx.2 hy.1 hy.2 w q hq _ hr hn R NN (u64s_cell h (k := 0) (by simp)) (u64s_cell h (k := 1) (by simp))
  · obtain ⟨x, y, z, rfl⟩ := len_three (by simpa using hN)
    have hx := hb x (by simp)
    have hy := hb y (by simp)
    have hz := hb z (by simp)
    exact built_3f op x y z hx.1 hx.2 hy.1 hy.2 hz.1 hz.2 w q hq _ hr hn R NN (u64s_cell h (k := 0) (by simp)) (u64s_cell h (k := 1) (by simp)) (u64s_cell h (k := 2) (by simp))
end Go.Proofs.YtijommlodgpphaaDoor
