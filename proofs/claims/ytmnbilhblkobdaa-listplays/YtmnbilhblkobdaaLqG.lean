
/- The closure of all: spots in a row of the call's own (layer 21). No statement of the seat is proved here. -/
import Derived.Test.YtmnbilhblkobdaaLqD
namespace Go.Proofs.Ytmnbilhblkobdaa
open Go.RowKit

/-- Spots as values. -/
def spV (P : List Sp) : List Value := P.flatMap fun t => [.int .u64 t.l, .int .u64 t.n, .int .u64 t.k]
theorem spV_append (P Q : List Sp) : spV (P ++ Q) = spV P ++ spV Q := by unfold spV; rw [List.flatMap_append]
theorem spV_length (P : List Sp) : (spV P).length = P.length * 3 := by
  induction P with
  | nil => rfl
  | cons t P ih =>
    show (spV ([t] ++ P)).length = _
    rw [spV_append, List.length_append, ih]
    show 3 + P.length * 3 = (P.length + 1) * 3
    omega
theorem spV_at : ∀ (P : List Sp) (i : Nat) (h : i < P.length), (spV P)[i * 3]? = some (.int .u64 P[i].l) ∧ (spV P)[i * 3 + 1]? = some (.int .u64 P[i].n) ∧ (spV P)[i * 3 + 2]? = some (.int .u64 P[i].k)
  | [], i, h => absurd h (by simp)
  | t :: P, 0, _ => ⟨rfl, rfl, rfl⟩
  | t :: P, i + 1, h => by
    have q := spV_at P i (by simpa using h)
    have e : spV (t :: P) = [.int .u64 t.l, .int .u64 t.n, .int .u64 t.k] ++ spV P := rfl
    rw [e, show (i + 1) * 3 = i * 3 + 3 by omega, show i * 3 + 3 + 1 = (i * 3 + 1) + 3 by omega, show i * 3 + 3 + 2 = (i * 3 + 2) + 3 by omega]
    exact q
/-- A row of spots of the call's own. -/
def Srw (w : World) (base : Nat) (v : Value) (P : List Sp) : Prop := w.ownsRow base 75 3 v P.length (spV P)
theorem Srw.nil (w : World) (base : Nat) : Srw w base (.slice none 0 0) [] := ⟨rfl, .inl ⟨rfl, rfl⟩⟩
theorem Srw.form {w : World} {base : Nat} {v : Value} {P : List Sp} (h : Srw w base v P) : ∃ a c, v = .slice a P.length c := by
  rcases id h.2 with ⟨h1, h2⟩ | ⟨g, cap, cur, rfl, _⟩
  · exact ⟨none, 0, by rw [h1, h2]⟩
  · exact ⟨_, cap, rfl⟩
theorem info_spot : (Try.prog.info? 75).map (fun i => (i.zero, i.size, i.bytes)) = some (some (.agg #[.int .u64 0, .int .u64 0, .int .u64 0]), 3, 24) := by kernel_rfl
theorem Srw.push {w : World} {base : Nat} {v : Value} {P : List Sp} (h : Srw w base v P) (hb : base ≤ w.heap.size) (hl : P.length ≤ 1000000) (t : Sp) :
    ∃ v' w', (Builtin.append_ #[80, 80] 80 #[v, .slice (some ⟨w.heap.size, 0, none⟩) 1 1]).run Try.prog (w.alloc (.cells #[.int .u64 t.l, .int .u64 t.n, .int .u64 t.k] 75)) = .ok v' w' ∧ Srw w' base v' (P ++ [t]) ∧ Keeps (fun g => v.ownBlock = some g) w w' ∧ (v'.ownBlock = v.ownBlock ∨ ∀ g, v'.ownBlock = some g → w.heap.size ≤ g) := by
  have h0 : (w.alloc (.cells #[.int .u64 t.l, .int .u64 t.n, .int .u64 t.k] 75)).ownsRow base 75 3 v P.length (spV P) := own_keeps h ((Keeps.refl (fun _ => False) w).alloc _) (fun _ _ f => f)
  obtain ⟨v', w', r1, r2, r3, r4⟩ := own_push (P := Try.prog) (w.alloc (.cells #[.int .u64 t.l, .int .u64 t.n, .int .u64 t.k] 75)) base 80 80 75 (.agg #[.int .u64 0, .int .u64 0, .int .u64 0]) 3 24 Try.underlying80 info_spot rfl (by decide) v P.length (spV P) h0 ⟨w.heap.size, 0, none⟩ 1 1 [.int .u64 t.l, .int .u64 t.n, .int .u64 t.k] rfl (fun j u hj => by
    have hj3 : j < 3 := (List.getElem?_eq_some_iff.1 hj).1
    rw [addr_add, cell_of_block (alloc_block w _), Nat.zero_add]
    simpa using hj) (fun u hu => by simp at hu; rcases hu with rfl | rfl | rfl <;> rfl) (by omega) (by decide) (by simp; omega)
  refine ⟨v', w', r1, ?_, ((Keeps.refl _ w).alloc _).step (keeps_grown r3) (fun g _ e => e), r4.imp id (fun q g hg => by have := q g hg; simp at this; omega)⟩
  unfold Srw
  rw [spV_append, List.length_append]
  exact r2
/-- What all's closure has: the cell of the row of spots, the cell of the count. -/
structure SpotsAt (base qs qc : Nat) (count : Int) (P : List Sp) (X : World) : Prop where
  key : KeyAt X qc count
  ex : ∃ v, X.heap[qs]? = some (.cells #[v] 80 (0, 0)) ∧ Srw X base v P ∧ ∀ k, v.ownBlock = some k → k ≠ qs ∧ k ≠ qc
  nq : qs ≠ qc
  bs : base ≤ X.heap.size
def SpotsFp (qs qc : Nat) (X : World) (k : Nat) : Prop := k = qs ∨ k = qc ∨ ∃ v, X.heap[qs]? = some (.cells #[v] 80 (0, 0)) ∧ v.ownBlock = some k
set_option maxRecDepth 100000 in
set_option maxHeartbeats 1000000 in
theorem all1_any (base qs qc : Nat) (count : Int) (P : List Sp) (t : Sp) (hP : P.length ≤ 1000000) (X : World) (h : SpotsAt base qs qc count P X) :
    Calls Try.prog 57 #[t.v, .pointer (some ⟨qs, 0, none⟩), .pointer (some ⟨qc, 0, none⟩)] X fun e X' => e = .returned (.bool (pAll count P t)) ∧ SpotsAt base qs qc count (if pAll count P t = true then P ++ [t] else P) X' ∧ Keeps (SpotsFp qs qc X) X X' ∧ ∀ k, SpotsFp qs qc X' k → SpotsFp qs qc X k ∨ X.heap.size ≤ k := by
  obtain ⟨v, hv, hr, hn⟩ := h.ex
  obtain ⟨a, cp, rfl⟩ := hr.form
  have kn := keeps_new X (.cells #[.int .u64 t.l, .int .u64 t.n, .int .u64 t.k] 75)
  have c1 : (X.alloc (.cells #[.int .u64 t.l, .int .u64 t.n, .int .u64 t.k] 75)).cell? ⟨qs, 0, none⟩ = some (.slice a P.length cp) := by rw [cell_of_block ((kn.block qs (lt_of_block hv) (fun f => f)).trans hv)]; rfl
  have c2 := (h.key.keeps kn (fun f => f)).cell
  have hwl : IntKind.u64.wrap (P.length : Int) = (P.length : Int) := by rw [IntKind.wrap_u64]; omega
  have hql := lt_of_block hv
  by_cases hc : (P.length : Int) = count
  · have hp : pAll count P t = false := by unfold pAll; simp [hc]
    rw [hp]
    have HF : Hid (SpotsAt base qs qc count P (X.alloc (.cells #[.int .u64 t.l, .int .u64 t.n, .int .u64 t.k] 75)) ∧ ∀ k, SpotsFp qs qc (X.alloc (.cells #[.int .u64 t.l, .int .u64 t.n, .int .u64 t.k] 75)) k → SpotsFp qs qc X k) := by
      refine hid ⟨⟨h.key.keeps kn (fun f => f), ⟨_, (kn.block qs hql (fun f => f)).trans hv, own_keeps hr kn (fun _ _ f => f), hn⟩, h.nq, Nat.le_trans h.bs kn.size⟩, ?_⟩
      rintro k (e | e | ⟨v, h1, h2⟩)
      · exact .inl e
      · exact .inr (.inl e)
      · exact .inr (.inr ⟨v, (kn.block qs hql (fun f => f)).symm.trans h1, h2⟩)
    have KN := hid kn
    clear hp hn hr hv h kn hql
    obtain ⟨l, n, k⟩ := t
    unfold Sp.v
    subst hc
    go_enter Try.func57, Try.ntmps57
    go_wp2_with fail
    go_ret
    exact ⟨rfl, HF.out.1, KN.out.mono (fun _ _ f => f.elim), fun k e => .inl (HF.out.2 k e)⟩
  · have hp : pAll count P t = true := by unfold pAll; simp [hc]
    rw [hp]
    obtain ⟨v', wa, hrun, hsr, hka, hob⟩ := (show Srw (X.alloc (.cells #[.int .u64 t.l, .int .u64 t.n, .int .u64 t.k] 75)) base _ P from own_keeps hr kn (fun _ _ f => f)).push (Nat.le_trans h.bs kn.size) hP t
    have hqa : wa.heap[qs]? = some (.cells #[.slice a P.length cp] 80 (0, 0)) := (hka.block qs (by have := kn.size; omega) (fun e => (hn qs e).1 rfl)).trans ((kn.block qs hql (fun f => f)).trans hv)
    have hkc : KeyAt wa qc count := (h.key.keeps kn (fun f => f)).keeps hka (fun e => (hn qc e).2 rfl)
    have ca : wa.cell? ⟨qs, 0, none⟩ = some (.slice a P.length cp) := by rw [cell_of_block hqa]; rfl
    have fa : wa.frozen? ⟨qs, 0, none⟩ = false := frozen_of_block hqa 0
    have hsz : X.heap.size + 1 ≤ wa.heap.size := by have := hka.size; simpa using this
    have hnew : ∀ k, v'.ownBlock = some k → (Value.slice a P.length cp).ownBlock = some k ∨ X.heap.size ≤ k := by
      intro k e
      rcases hob with q | q
      · exact .inl (q.symm.trans e)
      · have := q k e
        simp at this
        exact .inr (by omega)
    have hqc := lt_of_block h.key
    have HF : Hid (SpotsAt base qs qc count (P ++ [t]) (wa.setCell ⟨qs, 0, none⟩ v') ∧ Keeps (SpotsFp qs qc X) X (wa.setCell ⟨qs, 0, none⟩ v') ∧ ∀ k, SpotsFp qs qc (wa.setCell ⟨qs, 0, none⟩ v') k → SpotsFp qs qc X k ∨ X.heap.size ≤ k) := by
      have ks : Keeps (fun i => i = qs) wa (wa.setCell ⟨qs, 0, none⟩ v') := (Keeps.refl (fun i => i = qs) wa).setCell (p := ⟨qs, 0, none⟩) (.inr rfl) _
      have hq' : (wa.setCell ⟨qs, 0, none⟩ v').heap[qs]? = some (.cells #[v'] 80 (0, 0)) := by rw [block_set hqa]; rfl
      have hvn : ∀ k, v'.ownBlock = some k → k ≠ qs ∧ k ≠ qc := by
        intro k e
        rcases hnew k e with q | q
        · exact hn k q
        · exact ⟨by omega, by omega⟩
      refine hid ⟨⟨hkc.keeps ks (fun e => h.nq e.symm), ⟨v', hq', own_keeps hsr ks (fun k e => (hvn k e).1), hvn⟩, h.nq, by have := h.bs; have := ks.size; omega⟩, ?_, ?_⟩
      · refine ((kn.mono (T := SpotsFp qs qc X) (fun _ _ f => f.elim)).step hka (fun i _ e => .inr (.inr ⟨_, hv, e⟩))).step ks (fun i _ e => .inl e)
      · rintro k (e | e | ⟨u, h1, h2⟩)
        · exact .inl (.inl e)
        · exact .inl (.inr (.inl e))
        · rw [hq'] at h1
          simp only [Option.some.injEq, Obj.cells.injEq] at h1
          have h3 : u = v' := by
            have := congrArg (fun (z : Array Value) => z[0]?) h1.1
            simpa using this.symm
          rw [h3] at h2
          rcases hnew k h2 with q | q
          · exact .inl (.inr (.inr ⟨_, hv, q⟩))
          · exact .inr q
    obtain ⟨a', cp', rfl⟩ := hsr.form
    have HR : Hid ((Builtin.append_ #[80, 80] 80 #[.slice a P.length cp, .slice (some ⟨X.heap.size + 1, 0, none⟩) 1 1]).run Try.prog ((X.alloc (.cells #[.int .u64 t.l, .int .u64 t.n, .int .u64 t.k] 75)).alloc (.cells #[.int .u64 t.l, .int .u64 t.n, .int .u64 t.k] 75)) = .ok (.slice a' (P ++ [t]).length cp') wa) := by
      rw [show (X.alloc (.cells #[.int .u64 t.l, .int .u64 t.n, .int .u64 t.k] 75)).heap.size = X.heap.size + 1 by simp] at hrun
      exact hid hrun
    have hc' : ((P.length : Int) == count) = false := by simpa using hc
    clear hp hn hr hv h kn hql hrun hsr hka hob hqa hkc hnew hqc hc
    obtain ⟨l, n, k⟩ := t
    unfold Sp.v
    dsimp only at HR c1 c2
    go_enter Try.func57, Try.ntmps57
    go_wp2_with (at_builtin; refine wpList_append_run rfl _ _ 80 rfl rfl rfl HR.out ?_; clear HR c1 c2)
    go_ret
    have hf := HF.out
    rw [List.length_append] at hf
    exact ⟨rfl, hf⟩
theorem pass_all (base qs qc : Nat) (count : Int) : PassAt 57 #[.pointer (some ⟨qs, 0, none⟩), .pointer (some ⟨qc, 0, none⟩)] (pAll count) (SpotsAt base qs qc count) (SpotsFp qs qc) where
  ent := enters (by kernel_rfl)
  call X P t _ hP h := all1_any base qs qc count P t hP X h
  keep {S X X' P} h k hs := by
    obtain ⟨v, hv, hr, hn⟩ := h.ex
    have e1 : ¬ S qs := fun e => hs _ e (.inl rfl)
    have e2 : ¬ S qc := fun e => hs _ e (.inr (.inl rfl))
    have hv' := (k.block qs (lt_of_block hv) e1).trans hv
    refine ⟨⟨h.key.keeps k e2, ⟨v, hv', own_keeps hr k (fun i e f => hs i f (.inr (.inr ⟨v, hv, e⟩))), hn⟩, h.nq, Nat.le_trans h.bs k.size⟩, ?_⟩
    rintro i (e | e | ⟨u, h1, h2⟩)
    · exact .inl e
    · exact .inr (.inl e)
    · exact .inr (.inr ⟨u, (k.block qs (lt_of_block hv) e1).symm.trans h1, h2⟩)
  lt {X P i} h e := by
    obtain ⟨v, hv, hr, hn⟩ := h.ex
    rcases e with e | e | ⟨u, h1, h2⟩
    · rw [e]; exact lt_of_block hv
    · rw [e]; exact lt_of_block h.key
    · rw [hv] at h1
      simp only [Option.some.injEq, Obj.cells.injEq] at h1
      have h3 : u = v := by
        have := congrArg (fun (z : Array Value) => z[0]?) h1.1
        simpa using this.symm
      rw [h3] at h2
      exact (own_block hr h2).1
end Go.Proofs.Ytmnbilhblkobdaa
