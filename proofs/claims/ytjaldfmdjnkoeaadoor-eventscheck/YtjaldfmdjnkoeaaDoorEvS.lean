
/- The document's example: walks of second, known (package parleylaw13). No statement of the seat is proved here. -/
import Derived.Test.YtjaldfmdjnkoeaaDoorEvM
import Derived.Test.YtjaldfmdjnkoeaaDoorEvR
import Derived.Test.YtjaldfmdjnkoeaaDoorEvQ
namespace Go.Proofs.YtjaldfmdjnkoeaaDoor
open Go.RowKit Go.Shelf

theorem num_any (n : Int) (w : World) : Calls Tryd.prog 29 #[.int .i64 n] w fun e w' => e = .returned (.int .i64 n) ∧ w' = w := by
  go_enter Tryd.func29, Tryd.ntmps29
  go_wp2
  go_ret
  exact ⟨rfl, rfl⟩
@[go_sem] theorem eq_odd (a b c d : Int) (w : World) : (Op.equalIn 10000 27 (.agg #[.int .i64 a, .int .i64 b]) (.agg #[.int .i64 c, .int .i64 d])).run Tryd.prog w = .ok (a == c && b == d) w := by
  have u3 := Tryd.underlying3
  have a3 := Tryd.isAgg3
  have z3 := Tryd.sizeOf3
  have u4 := Tryd.underlying25
  have a4 := Tryd.isAgg25
  have z4 := Tryd.sizeOf25
  have hS : Tryd.prog.underlying 27 = some (.struct (Tryd.prog.fieldsOf 27)) := by kernel_rfl
  rw [show (10000 : Nat) = 9999 + 1 from rfl, run_equalIn_agg w 9999 27 _ _ hS (by kernel_rfl)]
  simp only [Program.fieldsOf, Tryd.underlying27]
  go_simp
  by_cases h1 : a = c <;> by_cases h2 : b = d <;> simp [h1, h2]
theorem eq_ty_self (a b c d e f g : Int) (w : World) : (Op.equalIn 10000 42 (.agg #[.int .i64 a, .int .i64 b, .int .i64 c, .int .u64 d, .int .i64 e, .int .i64 f, .int .i64 g]) (.agg #[.int .i64 a, .int .i64 b, .int .i64 c, .int .u64 d, .int .i64 e, .int .i64 f, .int .i64 g])).run Tryd.prog w = .ok true w := by
  have u3 := Tryd.underlying3
  have a3 := Tryd.isAgg3
  have z3 := Tryd.sizeOf3
  have u4 := Tryd.underlying40
  have a4 := Tryd.isAgg40
  have z4 := Tryd.sizeOf40
  have u5 := Tryd.underlying39
  have a5 := Tryd.isAgg39
  have z5 := Tryd.sizeOf39
  have hS : Tryd.prog.underlying 42 = some (.struct (Tryd.prog.fieldsOf 42)) := by kernel_rfl
  rw [show (10000 : Nat) = 9999 + 1 from rfl, run_equalIn_agg w 9999 42 _ _ hS (by kernel_rfl)]
  simp only [Program.fieldsOf, Tryd.underlying42]
  go_simp

def secL : List Ev := [⟨0, 1, 0, 0, false, 0⟩, ⟨0, 3, 1, 5, false, 0⟩, ⟨0, 2, 1, 5, true, 0⟩, ⟨0, 5, 0, 0, false, 0⟩, ⟨0, 6, 0, 1, false, 0⟩, ⟨1, 1, 0, 2, false, 0⟩]
theorem sec_check : checkL secL = (-1, 0) := by rfl
theorem sec_tries : triesL secL = [⟨0, 0, 4, 0, 6, 0, 1⟩, ⟨1, 5, 5, 2, 0, 0, 0⟩] := by rfl
theorem dec0 : Lib.decDigits 0 = [48] := by rw [Lib.decDigits]; rfl
theorem sec_text : textR (secL.take 1) = ([48, 32, 98, 101, 103, 105, 110, 32, 48, 10], 0) := by
  show (if ([(⟨0, 1, 0, 0, false, 0⟩ : Ev)].all formedE) = true then (textE [(⟨0, 1, 0, 0, false, 0⟩ : Ev)], (0 : Int)) else ([], 201)) = _
  rw [if_pos (by rfl)]
  have : textE [(⟨0, 1, 0, 0, false, 0⟩ : Ev)] = Lib.decDigits 0 ++ 32 :: ([98, 101, 103, 105, 110] ++ ([] ++ ((32 :: Lib.decDigits 0) ++ []))) ++ [10] := by
    show List.flatMap _ _ = _
    simp [lineL, nameL, blankN, adB, wdB, erB, shL, shNs]
  rw [this, dec0]
  rfl
theorem sec_parse1 : parseL [48, 32, 98, 101, 103, 105, 110, 32, 48, 10] = (some [⟨0, 1, 0, 0, false, 0⟩], 1) := by rfl
theorem sec_parse2 : parseL [48, 32, 98, 101, 103, 105, 110, 32, 48, 48, 10] = (none, 0) := by rfl
theorem sec_wf : ∀ e ∈ secL, e.wf := by
  intro e he
  simp only [secL, List.mem_cons, List.not_mem_nil, or_false] at he
  rcases he with rfl | rfl | rfl | rfl | rfl | rfl <;> (unfold Ev.wf; decide)
def secV : Array Value := #[.int .i64 0, .int .i64 1, .int .u64 0, .int .u64 0, .bool false, .int .i64 0, .int .i64 0, .int .i64 3, .int .u64 1, .int .u64 5, .bool false, .int .i64 0, .int .i64 0, .int .i64 2, .int .u64 1, .int .u64 5, .bool true, .int .i64 0, .int .i64 0, .int .i64 5, .int .u64 0, .int .u64 0, .bool false, .int .i64 0, .int .i64 0, .int .i64 6, .int .u64 0, .int .u64 1, .bool false, .int .i64 0, .int .i64 1, .int .i64 1, .int .u64 0, .int .u64 2, .bool false, .int .i64 0]
theorem sec_at {w : World} {g : Nat} (hb : w.heap[g]? = some (.cells secV 44 (0, 0))) : EvsAt w (.slice (some ⟨g, 0, none⟩) 6 6) secL := by
  refine ⟨?_, sec_wf, by decide⟩
  have h : OwnR Ev.cl 6 44 w g (.slice (some ⟨g, 0, none⟩) 6 6) secL :=
    ⟨⟨rfl, .inr ⟨g, 6, secV, rfl, Nat.le_refl _, hb, Nat.le_refl _, by decide, rfl, rfl⟩⟩, Nat.le_of_lt (lt_of_block hb)⟩
  exact h.els ev_len
set_option maxRecDepth 100000 in
theorem second_any (w : World) : Calls Tryd.prog 40 #[] w fun ex w' => ex = .returned (.slice (some ⟨w.heap.size, 0, none⟩) 6 6) ∧ EvsAt w' (.slice (some ⟨w.heap.size, 0, none⟩) 6 6) secL ∧ Keeps (fun _ => False) w w' := by
  have hb := (MapKept.heap_alloc w (.cells secV 44)).1
  have HE := sec_at hb
  have KE := (Keeps.refl (fun _ => False) w).alloc (.cells secV 44)
  have HH : Hid (EvsAt (w.alloc (.cells secV 44)) (.slice (some ⟨w.heap.size, 0, none⟩) 6 6) secL ∧ Keeps (fun _ => False) w (w.alloc (.cells secV 44))) := ⟨HE, KE⟩
  clear hb HE KE
  go_enter Tryd.func40, Tryd.ntmps40
  go_wp2_with fail
  go_ret
  exact ⟨rfl, HH.out⟩
theorem ElsAt.cut1 {w : World} {g : Nat} (h : EvsAt w (.slice (some ⟨g, 0, none⟩) 6 6) secL) : EvsAt w (.slice (some ⟨g, 0, none⟩) 1 6) (secL.take 1) := ⟨h.els.take 1 (by decide), fun e he => h.wf e (List.mem_of_mem_take he), by decide⟩
theorem sec_tr : ∀ X v, EvsAt X v secL → Gv X → 8 ≤ X.heap.size → Calls Tryd.prog 10 #[v] X fun ex w' => ∃ tv, ex = .returned (.tuple #[tv, .agg #[.int .i64 (-1), .int .i64 0]]) ∧ OwnR Ty.cl 7 42 w' X.heap.size tv [⟨0, 0, 4, 0, 6, 0, 1⟩, ⟨1, 5, 5, 2, 0, 0, 0⟩] ∧ Keeps (fun _ => False) X w' := fun X v h1 h2 h3 => by
  have := tries_any v secL X h1 h2 h3 (fun _ k hk => by
    have : (triesF tr0 (secL.take k) 0).l.length ≤ 2 := by
      have hk6 : k < 6 := hk
      rcases (by omega : k = 0 ∨ k = 1 ∨ k = 2 ∨ k = 3 ∨ k = 4 ∨ k = 5) with rfl | rfl | rfl | rfl | rfl | rfl <;> decide
    omega)
  rw [sec_check, if_pos rfl, sec_tries] at this
  exact this
theorem sec_tx : ∀ X v, EvsAt X v (secL.take 1) → Gv X → 8 ≤ X.heap.size → Calls Tryd.prog 25 #[v] X fun ex w' => ex = .returned (.tuple #[.string ⟨#[48, 32, 98, 101, 103, 105, 110, 32, 48, 10]⟩, .int .i64 0]) ∧ Keeps (fun _ => False) X w' := fun X v h1 h2 h3 => by
  have := text_any v (secL.take 1) X h1 h2 h3 (by decide)
  rw [sec_text] at this
  exact this
theorem sec_p1 : ∀ X, Gv X → 8 ≤ X.heap.size → Calls Tryd.prog 30 #[.string ⟨#[48, 32, 98, 101, 103, 105, 110, 32, 48, 10]⟩] X fun ex w' => ∃ v, ex = .returned (.tuple #[v, .int .i64 1, .int .i64 0]) ∧ OwnR Ev.cl 6 44 w' X.heap.size v [⟨0, 1, 0, 0, false, 0⟩] ∧ Keeps (fun _ => False) X w' := fun X h2 h3 => by
  have := eparse_any [48, 32, 98, 101, 103, 105, 110, 32, 48, 10] (by decide) X h2 h3
  rw [show parErr [48, 32, 98, 101, 103, 105, 110, 32, 48, 10] = 0 by unfold parErr; rw [sec_parse1]; rfl, sec_parse1] at this
  exact this
theorem sec_p2 : ∀ X, Gv X → 8 ≤ X.heap.size → Calls Tryd.prog 30 #[.string ⟨#[48, 32, 98, 101, 103, 105, 110, 32, 48, 48, 10]⟩] X fun ex w' => ∃ v, ex = .returned (.tuple #[v, .int .i64 0, .int .i64 234]) ∧ OwnR Ev.cl 6 44 w' X.heap.size v [] ∧ Keeps (fun _ => False) X w' := fun X h2 h3 => by
  have := eparse_any [48, 32, 98, 101, 103, 105, 110, 32, 48, 48, 10] (by decide) X h2 h3
  rw [show parErr [48, 32, 98, 101, 103, 105, 110, 32, 48, 48, 10] = 234 by unfold parErr; rw [sec_parse2]; rfl, sec_parse2] at this
  exact this
end Go.Proofs.YtjaldfmdjnkoeaaDoor
