
/- Rows of instructions of the call's own; whether two lists are the same. No statement of the seat is proved here. -/
import Derived.Test.YtijommlodgpphaaDoorRfH
import Derived.Deep.Upon
namespace Go.Proofs.YtijommlodgpphaaDoor
open Go.RowKit Go.Shelf

theorem info_ins : (Tryd.prog.info? 38).map (fun i => (i.zero, i.size, i.bytes)) = some (some (.agg #[.int .i64 0, .int .i64 0, .int .i64 0, .int .i64 0, .int .u64 0]), 5, 40) := by kernel_rfl
def insV (L : List I5) : List Value := L.flatMap fun i => i.cells.toList
theorem insV_len (L : List I5) : (insV L).length = L.length * 5 := by
  induction L with
  | nil => rfl
  | cons i L ih =>
    simp only [insV, List.flatMap_cons, List.length_append, List.length_cons] at *
    rw [ih]
    simp
    omega
theorem insV_at : ∀ (L : List I5) (k f : Nat) (hk : k < L.length), f < 5 → (insV L)[k * 5 + f]? = (L[k]).cells[f]?
  | [], k, f, hk, _ => absurd hk (by simp)
  | i :: L, 0, f, _, hf => by
    have : f = 0 ∨ f = 1 ∨ f = 2 ∨ f = 3 ∨ f = 4 := by omega
    rcases this with rfl | rfl | rfl | rfl | rfl <;> rfl
  | i :: L, k + 1, f, hk, hf => by
    have h := insV_at L k f (by simpa using hk) hf
    have e : insV (i :: L) = i.cells.toList ++ insV L := rfl
    rw [e, List.getElem?_append_right (by simp; omega)]
    have e2 : (k + 1) * 5 + f - i.cells.toList.length = k * 5 + f := by simp; omega
    rw [e2, h]
    simp
theorem insV_one (L : List I5) : ∀ u ∈ insV L, u.oneCell' = true := by
  intro u hu
  obtain ⟨i, _, h⟩ := List.mem_flatMap.1 hu
  simp at h
  rcases h with rfl | rfl | rfl | rfl | rfl <;> rfl
/-- Instructions where they lie, as a row of cells. -/
theorem InsAt.cells {w : World} {a : Addr} {n c : Nat} {L : List I5} (h : InsAt w (.slice (some a) n c) L) (hne : L ≠ []) : ∃ g off, a = ⟨g, off, none⟩ ∧ n = L.length ∧ ∀ (j : Nat) (u : Value), (insV L)[j]? = some u → w.cell? (a.add j) = some u := by
  obtain ⟨⟨a', cap, hv, hc⟩, _, _⟩ := h
  simp only [Value.slice.injEq] at hv
  obtain ⟨rfl, rfl, rfl⟩ := hv
  have hpos := List.length_pos_iff.2 hne
  obtain ⟨g, off, ha, _⟩ := hc 0 hpos
  cases ha
  refine ⟨g, off, rfl, rfl, fun j u hj => ?_⟩
  have hjl : j < L.length * 5 := by have := (List.getElem?_eq_some_iff.1 hj).1; rwa [insV_len] at this
  obtain ⟨g', off', ha, c0, c1, c2, c3, c4⟩ := hc (j / 5) (by omega)
  cases ha
  have e : j = j / 5 * 5 + j % 5 := by omega
  have hf : j % 5 < 5 := by omega
  rw [e, insV_at L (j / 5) (j % 5) (by omega) hf] at hj
  rw [addr_add, e]
  obtain ⟨f, hfe⟩ : ∃ f, f = j % 5 := ⟨_, rfl⟩
  rw [← hfe] at hj hf ⊢
  have : f = 0 ∨ f = 1 ∨ f = 2 ∨ f = 3 ∨ f = 4 := by omega
  clear e hfe
  rcases this with rfl | rfl | rfl | rfl | rfl
  · cases hj; exact c0
  · cases hj; exact c1
  · cases hj; exact c2
  · cases hj; exact c3
  · cases hj; exact c4

/-- A row of instructions of the call's own. -/
structure Irs (w : World) (base : Nat) (v : Value) (L : List I5) : Prop where
  own : w.ownsRow base 38 5 v L.length (insV L)
  base : base ≤ w.heap.size
theorem Irs.nil (w : World) : Irs w w.heap.size (.slice none 0 0) [] := ⟨⟨rfl, .inl ⟨rfl, rfl⟩⟩, Nat.le_refl _⟩
theorem Irs.keeps {w w' : World} {base : Nat} {v : Value} {L : List I5} {S : Nat → Prop} (h : Irs w base v L) (k : Keeps S w w') (hs : ∀ g, v.ownBlock = some g → ¬ S g) : Irs w' base v L :=
  ⟨own_keeps h.own k hs, Nat.le_trans h.base k.size⟩
theorem Irs.kept {w wr w' : World} {u u' : Value} {X : List I5} (h : Grew wr w' u u') (k : Keeps (fun _ => False) w wr) (hb : Irs wr w.heap.size u X) : Keeps (fun _ => False) w w' :=
  ⟨h.keeps.os.trans k.os, h.keeps.tape.trans k.tape, h.keeps.output.trans k.output, Nat.le_trans k.size h.keeps.size, fun g hg hs => (h.keeps.block g (Nat.lt_of_lt_of_le hg k.size) fun e => by
    have := (own_block hb.own e).2; omega).trans (k.block g hg hs)⟩
theorem Irs.insAt {w : World} {base : Nat} {v : Value} {L : List I5} (h : Irs w base v L) (hwf : ∀ i ∈ L, i.wf) (hb : L.length * 40 ≤ 140737488355328) : InsAt w v L := by
  refine ⟨?_, hwf, hb⟩
  rcases h.own.2 with ⟨rfl, h2⟩ | ⟨g, cap, cur, rfl, h1, h2, h3, h4, h5, h6⟩
  · exact ⟨none, 0, by rw [h2], fun k hk => by omega⟩
  · refine ⟨_, cap, rfl, fun k hk => ⟨g, 0, rfl, ?_⟩⟩
    have e : ∀ f, f < 5 → w.cell? ⟨g, k * 5 + f, none⟩ = (L[k]).cells[f]? := fun f hf => by
      rw [cell_of_block h2, ← insV_at L k f hk hf, ← h6, List.getElem?_take_of_lt (by omega)]
      simp
    simp only [Nat.zero_add]
    exact ⟨e 0 (by omega), e 1 (by omega), e 2 (by omega), e 3 (by omega), e 4 (by omega)⟩
/-- Instructions behind a row of the call's own. -/
theorem Irs.app {w : World} {base : Nat} {v : Value} {L : List I5} (h : Irs w base v L) (vs : Value) (M : List I5) (hM : InsAt w vs M) (hb : (L.length + M.length) * 40 ≤ 140737488355328) :
    ∃ v' w', (Builtin.append_ #[23, 23] 23 #[v, vs]).run Tryd.prog w = .ok v' w' ∧ Irs w' base v' (L ++ M) ∧ Grew w w' v v' := by
  obtain ⟨i0, hi, hz0, hz1, hz2⟩ := info_parts info_ins
  by_cases hne : M = []
  · subst hne
    obtain ⟨⟨a, c, rfl, _⟩, _, _⟩ := hM
    simp only [List.length_nil, List.append_nil]
    cases a with
    | none =>
      have hv : ∃ b n c', v = .slice b n c' ∧ n ≤ c' := by
        rcases h.own.2 with ⟨rfl, _⟩ | ⟨g, cap, cur, rfl, _, _, h3, _⟩
        · exact ⟨none, 0, 0, rfl, Nat.le_refl _⟩
        · exact ⟨_, _, cap, rfl, h3⟩
      obtain ⟨b, n, c', rfl, hle⟩ := hv
      exact ⟨_, w, run_append_nothing w 23 23 23 38 i0 Tryd.underlying23 hi b n c' hle _ (Src.ofNil _ (e' := 38) Tryd.underlying23 c), h, Grew.refl _ _⟩
    | some a =>
      obtain ⟨v', w', h1, h2, h3, h4⟩ := own_push (P := Tryd.prog) w base 23 23 38 _ 5 40 Tryd.underlying23 info_ins rfl (by decide) v L.length _ h.own a 0 c [] rfl (fun j u hj => by simp at hj) (by simp) (by simpa using hb) (by decide) h.base
      refine ⟨v', w', h1, ⟨by simpa using h2, Nat.le_trans h.base h3.size⟩, ⟨(Keeps.refl _ _).grown h3 fun k hk => .inr hk, h4⟩⟩
  · obtain ⟨a, c, rfl⟩ : ∃ a c, vs = .slice (some a) M.length c := by
      obtain ⟨⟨a, c, rfl, hc⟩, _, _⟩ := hM
      obtain ⟨g, off, rfl, _⟩ := hc 0 (List.length_pos_iff.2 hne)
      exact ⟨_, c, rfl⟩
    obtain ⟨g, off, rfl, _, hcs⟩ := hM.cells hne
    obtain ⟨v', w', h1, h2, h3, h4⟩ := own_push (P := Tryd.prog) w base 23 23 38 _ 5 40 Tryd.underlying23 info_ins rfl (by decide) v L.length _ h.own ⟨g, off, none⟩ M.length c (insV M) (insV_len M) hcs (insV_one M) hb (by decide) h.base
    refine ⟨v', w', h1, ⟨by simpa [insV] using h2, Nat.le_trans h.base h3.size⟩, ⟨(Keeps.refl _ _).grown h3 fun k hk => .inr hk, h4⟩⟩
end Go.Proofs.YtijommlodgpphaaDoor
