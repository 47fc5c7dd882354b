
/- What a way passes over, told by a closure: what it may count on, and the closures of list (layer 21). No statement of the seat is proved here. -/
import Derived.Test.YtmnbilhblkobdaaLpC
namespace Go.Proofs.Ytmnbilhblkobdaa
open Go.RowKit

/-- A function that has a body is entered. -/
noncomputable def entB (f : Nat) : Bool := match Try.prog.funcs[f]? with
  | some fn => !(fn.name == "runtime.NumGoroutine") && fn.body.isSome
  | none => false
theorem enters {f : Nat} (h : entB f = true) (args : Array Value) (w : World) : (callFunc f args).run Try.prog w = .ok (.enter f args) w := by
  unfold entB at h
  cases hf : Try.prog.funcs[f]? with
  | none => rw [hf] at h; simp at h
  | some fn =>
    rw [hf] at h
    simp only [Bool.and_eq_true, Bool.not_eq_true'] at h
    obtain ⟨h1, h2⟩ := h
    have h3 : ¬ fn.body = none := fun e => by rw [e] at h2; simp at h2
    have h4 : ¬ fn.name = "runtime.NumGoroutine" := by simpa using h1
    simp [callFunc, hf, h4, h3]
/-- A closure that tells whether a spot is passed over: J holds of what it has passed so far, Fp are the blocks that it owns. -/
structure PassAt (fn : Nat) (cap : Array Value) (pass : List Sp → Sp → Bool) (J : List Sp → World → Prop) (Fp : World → Nat → Prop) : Prop where
  ent : ∀ (args : Array Value) (X : World), (callFunc fn args).run Try.prog X = .ok (.enter fn args) X
  call : ∀ (X : World) (P : List Sp) (t : Sp), t.Ok → P.length ≤ 1000000 → J P X → Calls Try.prog fn (#[t.v] ++ cap) X fun e X' => e = .returned (.bool (pass P t)) ∧ J (if pass P t = true then P ++ [t] else P) X' ∧ Keeps (Fp X) X X' ∧ ∀ k, Fp X' k → Fp X k ∨ X.heap.size ≤ k
  keep : ∀ {S : Nat → Prop} {X X' : World} {P : List Sp}, J P X → Keeps S X X' → (∀ k, S k → ¬ Fp X k) → J P X' ∧ ∀ k, Fp X' k → Fp X k
  lt : ∀ {X : World} {P : List Sp} {k : Nat}, J P X → Fp X k → k < X.heap.size

/-- A key's cell. -/
def KeyAt (w : World) (q : Nat) (key : Int) : Prop := w.heap[q]? = some (.cells #[.int .u64 key] 25 (0, 0))
theorem KeyAt.cell {w : World} {q : Nat} {key : Int} (h : KeyAt w q key) : w.cell? ⟨q, 0, none⟩ = some (.int .u64 key) := by rw [cell_of_block h]; rfl
theorem KeyAt.keeps {S : Nat → Prop} {w w' : World} {q : Nat} {key : Int} (h : KeyAt w q key) (k : Keeps S w w') (hq : ¬ S q) : KeyAt w' q key := (k.block q (lt_of_block h) hq).trans h
set_option maxHeartbeats 400000 in
theorem seek1_any (t : Sp) (q : Nat) (key : Int) (w : World) (h : KeyAt w q key) : Calls Try.prog 56 #[t.v, .pointer (some ⟨q, 0, none⟩)] w fun e w' => e = .returned (.bool (decide (t.k < key))) ∧ Keeps (fun _ => False) w w' := by
  have hc := h.cell
  have hc' := (h.keeps (keeps_new w (.cells #[.int .u64 t.l, .int .u64 t.n, .int .u64 t.k] 75)) (fun f => f)).cell
  obtain ⟨l, n, k⟩ := t
  unfold Sp.v
  clear hc
  go_enter Try.func56, Try.ntmps56
  go_wp2
  go_ret
  exact ⟨rfl, keeps_new w _⟩
set_option maxHeartbeats 400000 in
theorem above1_any (t : Sp) (q : Nat) (key : Int) (w : World) (h : KeyAt w q key) : Calls Try.prog 47 #[t.v, .pointer (some ⟨q, 0, none⟩)] w fun e w' => e = .returned (.bool (decide (t.k ≤ key))) ∧ Keeps (fun _ => False) w w' := by
  have hc' := (h.keeps (keeps_new w (.cells #[.int .u64 t.l, .int .u64 t.n, .int .u64 t.k] 75)) (fun f => f)).cell
  obtain ⟨l, n, k⟩ := t
  unfold Sp.v
  go_enter Try.func47, Try.ntmps47
  go_wp2
  go_ret
  exact ⟨rfl, keeps_new w _⟩
set_option maxHeartbeats 400000 in
theorem first1_any (t : Sp) (w : World) : Calls Try.prog 49 #[t.v] w fun e w' => e = .returned (.bool false) ∧ Keeps (fun _ => False) w w' := by
  obtain ⟨l, n, k⟩ := t
  unfold Sp.v
  go_enter Try.func49, Try.ntmps49
  go_wp2
  go_ret
  exact ⟨rfl, keeps_new w _⟩
theorem pass_key {fn : Nat} {q : Nat} {key : Int} {pass : Sp → Bool} (he : entB fn = true) (hc : ∀ (t : Sp) (X : World), KeyAt X q key → Calls Try.prog fn #[t.v, .pointer (some ⟨q, 0, none⟩)] X fun e w' => e = .returned (.bool (pass t)) ∧ Keeps (fun _ => False) X w') :
    PassAt fn #[.pointer (some ⟨q, 0, none⟩)] (fun _ t => pass t) (fun _ X => KeyAt X q key) (fun _ k => k = q) where
  ent := enters he
  call X P t _ _ h := by
    refine (hc t X h).mono ?_
    rintro e w' ⟨rfl, k⟩
    exact ⟨rfl, h.keeps k (fun f => f), k.mono (fun _ _ f => f.elim), fun _ e => .inl e⟩
  keep h k hs := ⟨h.keeps k (fun e => hs _ e rfl), fun _ e => e⟩
  lt h e := by rw [e]; exact lt_of_block h
theorem pass_lt (q : Nat) (key : Int) : PassAt 56 #[.pointer (some ⟨q, 0, none⟩)] (pLt key) (fun _ X => KeyAt X q key) (fun _ k => k = q) := pass_key (by kernel_rfl) (fun t X h => seek1_any t q key X h)
theorem pass_le (q : Nat) (key : Int) : PassAt 47 #[.pointer (some ⟨q, 0, none⟩)] (pLe key) (fun _ X => KeyAt X q key) (fun _ k => k = q) := pass_key (by kernel_rfl) (fun t X h => above1_any t q key X h)
theorem pass_no : PassAt 49 #[] pNo (fun _ _ => True) (fun _ _ => False) where
  ent := enters (by kernel_rfl)
  call X P t _ _ _ := by
    refine (first1_any t X).mono ?_
    rintro e w' ⟨rfl, k⟩
    exact ⟨rfl, trivial, k, fun _ e => .inl e⟩
  keep _ _ _ := ⟨trivial, fun _ e => e⟩
  lt _ e := e.elim
end Go.Proofs.Ytmnbilhblkobdaa
