
/- A row of queues, that grows and is cut (layer 23). No statement of the seat is proved here. -/
import Derived.Test.YtadbplbifjeghaaQxGI
namespace Go.Proofs.Ytadbplbifjeghaa
open Go.RowKit

theorem info_ptr : (Try.prog.info? 43).map (fun i => (i.zero, i.size, i.bytes)) = some (some (.pointer none), 1, 8) := by kernel_rfl
def ptrs (E : List Qe) : List Value := E.map fun e => .pointer (some ⟨e.p, 0, none⟩)
theorem ptrs_len (E : List Qe) : (ptrs E).length = E.length := List.length_map ..
theorem ptrs_two (A B : List Qe) : ptrs (A ++ B) = ptrs A ++ ptrs B := List.map_append ..
theorem ptrs_one (E : List Qe) : ∀ u ∈ ptrs E, u.oneCell' = true := fun u hu => by
  obtain ⟨e, _, rfl⟩ := List.mem_map.1 hu
  rfl
theorem ptrs_take (E : List Qe) (k : Nat) : (ptrs E).take k = ptrs (E.take k) := List.map_take.symm
theorem ptrs_drop (E : List Qe) (k : Nat) : (ptrs E).drop k = ptrs (E.drop k) := List.map_drop.symm
/-- A row of queues: the cells behind its bound may hold anything. -/
def Pw (w : World) (v : Value) (E : List Qe) : Prop := (v = .slice none 0 0 ∧ E = []) ∨ ∃ g cap cur, v = .slice (some ⟨g, 0, none⟩) E.length cap ∧ w.heap[g]? = some (.cells cur 43 (0, 0)) ∧ E.length ≤ cap ∧ cap ≤ cur.size ∧ cur.toList.take E.length = ptrs E
section
variable {w w' : World} {v : Value} {E : List Qe}
theorem Pw.nil (w : World) : Pw w (.slice none 0 0) [] := .inl ⟨rfl, rfl⟩
theorem Pw.lt (h : Pw w v E) {g : Nat} (hg : v.ownBlock = some g) : g < w.heap.size := by
  rcases h with ⟨rfl, _⟩ | ⟨g', cap, cur, rfl, h1, _⟩
  · cases hg
  · cases hg; exact lt_of_block h1
theorem Pw.keeps {S : Nat → Prop} (h : Pw w v E) (k : Keeps S w w') (hs : ∀ g, v.ownBlock = some g → ¬ S g) : Pw w' v E := by
  rcases h with h | ⟨g, cap, cur, rfl, h2, h3⟩
  · exact .inl h
  · exact .inr ⟨g, cap, cur, rfl, (k.block g (lt_of_block h2) (hs g rfl)).trans h2, h3⟩
theorem Pw.same {E' : List Qe} (h : Pw w v E) (e : ptrs E = ptrs E') : Pw w v E' := by
  have hl : E.length = E'.length := by rw [← ptrs_len E, e, ptrs_len]
  rcases h with ⟨h1, rfl⟩ | ⟨g, cap, cur, rfl, h2, h3, h4, h5⟩
  · exact .inl ⟨h1, List.eq_nil_of_length_eq_zero hl.symm⟩
  · exact .inr ⟨g, cap, cur, by rw [hl], h2, by omega, h4, by rw [← hl, h5, e]⟩
theorem Pw.form (h : Pw w v E) : ∃ a c, v = .slice a E.length c := by
  rcases h with ⟨rfl, rfl⟩ | ⟨g', cap, cur, rfl, _⟩
  · exact ⟨_, _, rfl⟩
  · exact ⟨_, _, rfl⟩
theorem Pw.at (h : Pw w v E) {k : Nat} {e : Qe} (hk : E[k]? = some e) : ∃ g cap, v = .slice (some ⟨g, 0, none⟩) E.length cap ∧ E.length ≤ cap ∧ w.cell? ⟨g, k, none⟩ = some (.pointer (some ⟨e.p, 0, none⟩)) := by
  have hlt := (List.getElem?_eq_some_iff.1 hk).1
  rcases h with ⟨_, rfl⟩ | ⟨g, cap, cur, rfl, h2, h3, h4, h5⟩
  · simp at hlt
  · refine ⟨g, cap, rfl, h3, ?_⟩
    have q : (ptrs E)[k]? = some (.pointer (some ⟨e.p, 0, none⟩)) := by unfold ptrs; rw [List.getElem?_map, hk]; rfl
    rw [← h5, List.getElem?_take_of_lt hlt] at q
    rw [cell_of_block h2]
    simpa using q
theorem ptr_fit {n : Nat} (h : n < 1000000) : n * 8 ≤ 140737488355328 := by omega
theorem pw_setRow_keeps {w : World} (g : Nat) (cs : Array Value) : Keeps (fun k => k = g) w (w.setRow g cs) := ⟨rfl, rfl, rfl, by simp, fun k _ hk => setRow_other w g k cs hk⟩
set_option maxRecDepth 100000 in
/-- One queue more. -/
theorem Pw.push (h : Pw w v E) (hl : E.length < 100000) (e : Qe) :
    ∃ v' w', (Builtin.append_ #[29, 29] 29 #[v, .slice (some ⟨w.heap.size, 0, none⟩) 1 1]).run Try.prog (w.alloc (.cells #[.pointer (some ⟨e.p, 0, none⟩)] 43)) = .ok v' w' ∧ Pw w' v' (E ++ [e]) ∧ Keeps (fun i => v.ownBlock = some i) w w' ∧ (∀ i, v'.ownBlock = some i → v.ownBlock = some i ∨ w.heap.size ≤ i) := by
  obtain ⟨i, hi, hz0, hz1, hz2⟩ := info_parts info_ptr
  have hle : (E ++ [e]).length = E.length + 1 := by simp
  have hp1 : ptrs (E ++ [e]) = ptrs E ++ [.pointer (some ⟨e.p, 0, none⟩)] := by rw [ptrs_two]; rfl
  have hu : ∀ (j : Nat) (u : Value), ([Value.pointer (some ⟨e.p, 0, none⟩)] : List Value)[j]? = some u → (w.alloc (.cells #[.pointer (some ⟨e.p, 0, none⟩)] 43)).cell? ((⟨w.heap.size, 0, none⟩ : Addr).add j) = some u := fun j u hj => by
    rw [addr_add, Nat.zero_add, cell_of_block (alloc_block w _)]
    simpa using hj
  rcases h with ⟨rfl, rfl⟩ | ⟨g, cap, cur, rfl, h2, h3, h4, h5⟩
  · obtain ⟨v', w', r1, r2, r3, r4⟩ := own_push (P := Try.prog) (w.alloc (.cells #[.pointer (some ⟨e.p, 0, none⟩)] 43)) 0 29 29 43 _ 1 8 Try.underlying29 info_ptr rfl (by decide) (.slice none 0 0) 0 [] ⟨rfl, .inl ⟨rfl, rfl⟩⟩ ⟨w.heap.size, 0, none⟩ 1 1 [.pointer (some ⟨e.p, 0, none⟩)] rfl hu (ptrs_one [e]) (by omega) (by decide) (Nat.zero_le _)
    have kk : Keeps (fun g => (Value.slice none 0 0).ownBlock = some g) w w' := ((Keeps.refl _ w).alloc _).step (keeps_grown r3) (fun _ _ e => e)
    refine ⟨v', w', r1, ?_, kk, fun q hq => ?_⟩
    · rcases id r2.2 with ⟨rfl, e⟩ | ⟨g, cap, cur, rfl, q1, q2, q3, q4, q5, q6⟩
      · omega
      · exact .inr ⟨g, cap, cur, rfl, q2, q3, by omega, q6⟩
    · rcases r4 with r4 | r4
      · rw [r4] at hq; exact .inl hq
      · exact .inr (by have := r4 q hq; simp at this; omega)
  · have hg0 := lt_of_block h2
    have h2' : (w.alloc (.cells #[.pointer (some ⟨e.p, 0, none⟩)] 43)).heap[g]? = some (.cells cur 43 (0, 0)) := (Below.heap_alloc _ _ _ hg0).trans h2
    by_cases hc : E.length + 1 ≤ cap
    · have s1 := run_append_room (P := Try.prog) (w.alloc (.cells #[.pointer (some ⟨e.p, 0, none⟩)] 43)) 29 29 43 i Try.underlying29 hi g E.length cap cur h2' ⟨w.heap.size, 0, none⟩ 1 1 [.pointer (some ⟨e.p, 0, none⟩)] (by rw [hz1]; rfl) hu (ptrs_one [e]) hc (by rw [hz1]; simp; omega)
      refine ⟨_, _, s1, .inr ⟨g, cap, _, by rw [hle], setRow_heap _ g cur _ _ _ h2', by rw [hle]; exact hc, ?_, ?_⟩, ?_, fun q hq => .inl hq⟩
      · simp [hz1]; omega
      · rw [hz1, hp1, hle, Nat.mul_one, h5, show E.length + 1 = (ptrs E ++ [Value.pointer (some ⟨e.p, 0, none⟩)]).length by rw [List.length_append, ptrs_len]; rfl, List.take_left]
      · exact ((Keeps.refl _ w).alloc _).step (pw_setRow_keeps g _) (fun q _ e => by subst e; rfl)
    · have s1 := run_append_grow (P := Try.prog) (w.alloc (.cells #[.pointer (some ⟨e.p, 0, none⟩)] 43)) 29 29 43 i _ Try.underlying29 hi hz0 ⟨g, 0, none⟩ E.length cap (ptrs E) (by rw [hz1, ptrs_len]; simp) (fun j u hj => by
        have hlt : j < E.length := by have := (List.getElem?_eq_some_iff.1 hj).1; rwa [ptrs_len] at this
        rw [addr_add, Nat.zero_add, cell_of_block h2']
        rw [← h5, List.getElem?_take_of_lt hlt] at hj
        simpa using hj) ⟨w.heap.size, 0, none⟩ 1 1 [.pointer (some ⟨e.p, 0, none⟩)] (by rw [hz1]; rfl) hu (by omega) (by omega) (growslice_fits (by omega) (by rw [hz2]; exact ptr_fit (by omega)))
      have hge := grownCap_ge (w.alloc (.cells #[.pointer (some ⟨e.p, 0, none⟩)] 43)) (E.length + 1) cap 43
      refine ⟨_, _, s1, .inr ⟨_, _, _, by rw [hle]; rfl, alloc_block (World.drew _) _, by rw [hle]; exact hge, ?_, ?_⟩, ((Keeps.refl _ w).alloc _).drew.alloc _, fun q hq => .inr ?_⟩
      · have z2 : (Value.pointer none).cells.size = 1 := rfl
        simp only [Array.size_append, List.size_toArray, ptrs_len, Builtin.zeroCells, z2]
        simp
        omega
      · rw [hp1, hle]
        simp only [Array.toList_append]
        rw [show E.length + 1 = (ptrs E ++ [Value.pointer (some ⟨e.p, 0, none⟩)]).length by rw [List.length_append, ptrs_len]; rfl, List.take_left]
      · simp [Value.ownBlock] at hq; omega
set_option maxRecDepth 100000 in
/-- One is cut out of it: append(l[:k:k], l[k+1:]...). -/
theorem Pw.cut {g cap : Nat} (h : Pw w (.slice (some ⟨g, 0, none⟩) E.length cap) E) (hl : E.length < 100000) {k : Nat} (hk : k < E.length) (a : Addr) (ha : cap = k + 1 ∨ a = ⟨g, k + 1, none⟩) (c : Nat) :
    ∃ v' w', (Builtin.append_ #[29, 29] 29 #[.slice (some ⟨g, 0, none⟩) k k, .slice (some a) (E.length - (k + 1)) c]).run Try.prog w = .ok v' w' ∧ Pw w' v' (E.eraseIdx k) ∧ Keeps (fun _ => False) w w' ∧ (∀ q, v'.ownBlock = some q → q = g ∨ w.heap.size ≤ q) := by
  obtain ⟨i, hi, hz0, hz1, hz2⟩ := info_parts info_ptr
  rcases h with ⟨e, _⟩ | ⟨g', cap', cur, e, h2, h3, h4, h5⟩
  · cases e
  injection e with e1 e2 e3
  injection e1 with e1
  injection e1 with e1
  subst e1
  subst e3
  have htk : cur.toList.take k = ptrs (E.take k) := by
    rw [← ptrs_take, ← h5, List.take_take, Nat.min_eq_left (by omega)]
  have hol : (E.take k).length = k := by simp; omega
  have hdl : (E.drop (k + 1)).length = E.length - (k + 1) := by simp
  have her : E.eraseIdx k = E.take k ++ E.drop (k + 1) := List.eraseIdx_eq_take_drop_succ E k
  by_cases hm : E.length - (k + 1) = 0
  · have hd0 : E.drop (k + 1) = [] := List.eq_nil_of_length_eq_zero (by rw [hdl]; exact hm)
    rw [hm]
    have s1 := run_append_room (P := Try.prog) w 29 29 43 i Try.underlying29 hi g k k cur h2 a 0 c [] (by simp) (fun j u hj => by simp at hj) (fun u hu => by simp at hu) (Nat.le_refl _) (by rw [hz1]; simp; omega)
    simp only [List.append_nil, List.length_nil, Nat.add_zero, List.take_append_drop] at s1
    rw [show cur.toList.toArray = cur by simp, setRow_self w g cur _ _ h2] at s1
    refine ⟨_, _, s1, .inr ⟨g, k, cur, by rw [her, hd0, List.append_nil, hol], h2, by rw [her, hd0, List.append_nil, hol]; exact Nat.le_refl _, by omega, by rw [her, hd0, List.append_nil, hol]; exact htk⟩, Keeps.refl _ _, fun q hq => .inl ?_⟩
    cases hq
    rfl
  · obtain rfl : a = ⟨g, k + 1, none⟩ := ha.resolve_left (by omega)
    have hu : ∀ (j : Nat) (u : Value), (ptrs (E.drop (k + 1)))[j]? = some u → w.cell? ((⟨g, k + 1, none⟩ : Addr).add j) = some u := fun j u hj => by
      have hlt : j < E.length - (k + 1) := by have := (List.getElem?_eq_some_iff.1 hj).1; rwa [ptrs_len, hdl] at this
      rw [addr_add, cell_of_block h2]
      rw [← ptrs_drop, List.getElem?_drop, ← h5, List.getElem?_take_of_lt (by omega)] at hj
      simpa using hj
    have s1 := run_append_grow (P := Try.prog) w 29 29 43 i _ Try.underlying29 hi hz0 ⟨g, 0, none⟩ k k (ptrs (E.take k)) (by rw [hz1, ptrs_len, hol]; simp) (fun j u hj => by
      have hlt : j < k := by have := (List.getElem?_eq_some_iff.1 hj).1; rwa [ptrs_len, hol] at this
      rw [addr_add, Nat.zero_add, cell_of_block h2]
      rw [← htk, List.getElem?_take_of_lt hlt] at hj
      simpa using hj) ⟨g, k + 1, none⟩ (E.length - (k + 1)) c (ptrs (E.drop (k + 1))) (by rw [hz1, ptrs_len, hdl]; simp) hu (by omega) (by omega) (growslice_fits (by omega) (by rw [hz2]; exact ptr_fit (by omega)))
    have hge := grownCap_ge w (k + (E.length - (k + 1))) k 43
    have hle : (E.eraseIdx k).length = k + (E.length - (k + 1)) := by rw [her, List.length_append, hol, hdl]
    refine ⟨_, _, s1, .inr ⟨_, _, _, by rw [hle]; rfl, alloc_block (World.drew _) _, by rw [hle]; exact hge, ?_, ?_⟩, (Keeps.refl _ w).drew.alloc _, fun q hq => .inr ?_⟩
    · have z2 : (Value.pointer none).cells.size = 1 := rfl
      simp only [Array.size_append, List.size_toArray, ptrs_len, Builtin.zeroCells, z2, hol, hdl]
      generalize grownCap w (k + (E.length - (k + 1))) k 43 = G at hge ⊢
      simp
      omega
    · rw [her, ptrs_two]
      simp only [Array.toList_append]
      rw [show (E.take k ++ E.drop (k + 1)).length = (ptrs (E.take k) ++ ptrs (E.drop (k + 1))).length by rw [← ptrs_two, ptrs_len], List.take_left]
    · simp [Value.ownBlock] at hq; omega
end
end Go.Proofs.Ytadbplbifjeghaa
