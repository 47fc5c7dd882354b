
/- The clocks at the end of a play of SeqPlays: each is asked once more. No statement of the seat is proved here. -/
import Derived.Test.YtlldffbohojppaaSeqH
import Derived.Deep.QuietTactic
import Derived.BigQuiet
namespace Go.Proofs.Ytlldffbohojppaa
open Go.RowKit

theorem nums_at : ∀ (M : List Clk) (j : Nat) (d : Clk), M[j]? = some d → (nums M)[j * 2]? = some (.int .u64 d.x) ∧ (nums M)[j * 2 + 1]? = some (.int .i64 d.st)
  | [], j, d, h => by simp at h
  | e :: M, 0, d, h => by
    simp at h
    subst h
    exact ⟨rfl, rfl⟩
  | e :: M, j + 1, d, h => by
    have h' : M[j]? = some d := by simpa using h
    have := nums_at M j d h'
    have e1 : nums (e :: M) = .int .u64 e.x :: .int .i64 e.st :: nums M := rfl
    rw [e1, show (j + 1) * 2 = j * 2 + 1 + 1 by omega, show j * 2 + 1 + 1 + 1 = (j * 2 + 1) + 1 + 1 by omega]
    simpa using this
theorem ptrs_at (M : List Clk) (j : Nat) (d : Clk) (h : M[j]? = some d) : (ptrs M)[j]? = some (.pointer (some ⟨d.p, 0, none⟩)) := by simp [ptrs, h]

theorem own_cells {w : World} {base sz : Nat} {e : TypeId} {v : Value} {n : Nat} {xs : List Value} (h : w.ownsRow base e sz v n xs) (hn : 0 < n) : ∃ g cap, v = .slice (some ⟨g, 0, none⟩) n cap ∧ ∀ j q, xs[j]? = some q → w.cell? ⟨g, j, none⟩ = some q := by
  rcases h.2 with ⟨rfl, rfl⟩ | ⟨g, cap, cur, rfl, h1, h2, h3, h4, h5, h6⟩
  · omega
  · refine ⟨g, cap, rfl, fun j q hj => ?_⟩
    have hlt : j < n * sz := by
      have := (List.getElem?_eq_some_iff.1 hj).1
      rw [h.1] at this; omega
    rw [cell_of_block h2]
    rw [← h6, List.getElem?_take_of_lt hlt] at hj
    simpa using hj

theorem own_cell {w : World} {base sz g cap : Nat} {e : TypeId} {n m : Nat} {xs : List Value} (h : w.ownsRow base e sz (.slice (some ⟨g, 0, none⟩) n cap) m xs) (hn : 0 < m) {j : Nat} {q : Value} (hj : xs[j]? = some q) : w.cell? ⟨g, j, none⟩ = some q := by
  obtain ⟨g', cap', e', hc⟩ := own_cells h hn
  cases e'
  exact hc j q hj

section
variable {w wr w2 : World} {f : Nat → Clk} {v u : Value} {L M : List Clk}
theorem Fam.all (h : Fam w (Fx wr v u) f L) : (∀ d ∈ L ++ [f 0, f 1], d.At w) ∧ (L ++ [f 0, f 1]).Pairwise Clk.apart ∧ ∀ d ∈ L ++ [f 0, f 1], ∀ k, d.own k → ¬ Fx wr v u k := by
  have hm : ∀ d, d ∈ L ++ [f 0, f 1] → d ∈ L ∨ d = f 0 ∨ d = f 1 := fun d hd => by simpa using hd
  refine ⟨fun d hd => ?_, ?_, fun d hd => ?_⟩
  · rcases hm d hd with hd | rfl | rfl
    · exact h.l d hd
    · exact h.c 0 (by omega)
    · exact h.c 1 (by omega)
  · rw [List.pairwise_append]
    refine ⟨h.ll, ?_, fun a ha b hb => ?_⟩
    · simp
      exact h.cc 0 1 (by omega) (by omega) (by omega)
    · have hb : b = f 0 ∨ b = f 1 := by simpa using hb
      rcases hb with rfl | rfl
      · exact (h.cl 0 (by omega) a ha).symm
      · exact (h.cl 1 (by omega) a ha).symm
  · rcases hm d hd with hd | rfl | rfl
    · exact h.lx d hd
    · exact h.cx 0 (by omega)
    · exact h.cx 1 (by omega)

theorem next_ones (hp : M.Pairwise Clk.apart) {j : Nat} {d : Clk} (hd : M[j]? = some d) (ha : ∀ e ∈ M.drop j, e.At wr) (k : Keeps d.own wr w2) : ∀ e ∈ M.drop (j + 1), e.At w2 := fun e he => by
  obtain ⟨q, hq⟩ := List.mem_iff_getElem?.1 he
  rw [List.getElem?_drop] at hq
  have he' : e ∈ M.drop j := List.mem_iff_getElem?.2 ⟨q + 1, by rw [List.getElem?_drop, show j + (q + 1) = j + 1 + q by omega]; exact hq⟩
  obtain ⟨h1, h1'⟩ := List.getElem?_eq_some_iff.1 hd
  obtain ⟨h2, h2'⟩ := List.getElem?_eq_some_iff.1 hq
  have hap : d.apart e := by
    have := List.pairwise_iff_getElem.1 hp j (j + 1 + q) h1 h2 (by omega)
    rwa [h1', h2'] at this
  exact (ha e he').kept k (fun i hi hdi => hap i hdi hi)
end

theorem range_two (f : Nat → Clk) : (List.range 2).map f = [f 0, f 1] := rfl
theorem range_more (f : Nat → Clk) (L : List Clk) (j : Nat) : L ++ (List.range j).map f ++ [f j] = L ++ (List.range (j + 1)).map f := by
  rw [List.range_succ, List.map_append, List.append_assoc]
  rfl

end Go.Proofs.Ytlldffbohojppaa
