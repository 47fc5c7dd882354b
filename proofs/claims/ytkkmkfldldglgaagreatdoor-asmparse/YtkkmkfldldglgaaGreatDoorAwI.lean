
/- What the document's Read has, as it lies; walks of Place and SameLabels (package parleyref09). No statement of the seat is proved here. -/
import Derived.Test.YtkkmkfldldglgaaGreatDoorAwD
import Derived.Test.YtkkmkfldldglgaaGreatDoorAqM
import Derived.Test.YtkkmkfldldglgaaGreatDoorAsN
import Derived.Test.YtkkmkfldldglgaaGreatDoorAuI
namespace Go.Proofs.YtkkmkfldldglgaaGreatDoor
open Go.RowKit Go.Shelf

/-- Two rows share no block. -/
def apt (a b : Value) : Prop := ∀ g, a.ownBlock = some g → b.ownBlock ≠ some g
theorem apt.symm {a b : Value} (h : apt a b) : apt b a := fun g hb ha => h g ha hb
theorem apt.grew {w w' : World} {v v' x : Value} (ha : apt v x) (h : Grew w w' v v') (hx : ∀ g, x.ownBlock = some g → g < w.heap.size) : apt v' x := fun g hv hxg => by
  rcases h.own with q | q
  · exact ha g (q ▸ hv) hxg
  · have := q g hv; have := hx g hxg; omega
theorem apt.none (x : Value) : apt (.slice none 0 0) x := fun g hg => by cases hg
theorem apt.row {w w' : World} {v v' x : Value} {base size : Nat} {e : TypeId} {n : Nat} {xs : List Value} (ha : apt v x) (h : Grew w w' v v') (hx : w.ownsRow base e size x n xs) : w'.ownsRow base e size x n xs :=
  own_keeps hx h.keeps (fun g hg f => ha g f hg)
theorem kept_grew {w0 w w' : World} {v v' : Value} (hg : Grew w w' v v') (k : Keeps (fun _ => False) w0 w) (hb : ∀ g, v.ownBlock = some g → w0.heap.size ≤ g) : Keeps (fun _ => False) w0 w' :=
  ⟨hg.keeps.os.trans k.os, hg.keeps.tape.trans k.tape, hg.keeps.output.trans k.output, Nat.le_trans k.size hg.keeps.size, fun g hgg hs => (hg.keeps.block g (Nat.lt_of_lt_of_le hgg k.size) fun e => by
    have := hb g e; omega).trans (k.block g hgg hs)⟩

/-- The five rows of Read. -/
structure DR (w : World) (base : Nat) (vp vl vn va vi : Value) (r : Rd) : Prop where
  code : Irs w base vp r.code
  labs : w.ownsRow base 39 2 vl r.labs.length (labV r.labs)
  names : Strs w base vn (r.uses.map fun u => u.1)
  ats : w.ownsRow base 3 1 va r.uses.length (r.uses.map fun u => .int .i64 (u.2.1 : Int))
  ins : w.ownsRow base 3 1 vi r.uses.length (r.uses.map fun u => .int .i64 (u.2.2 : Int))
  wf : ∀ i ∈ r.code, i.wf
  pl : apt vp vl
  pn : apt vp vn
  pa : apt vp va
  pi : apt vp vi
  ln : apt vl vn
  la : apt vl va
  li : apt vl vi
  na : apt vn va
  ni : apt vn vi
  ai : apt va vi
theorem DR.nil (w : World) : DR w w.heap.size (.slice none 0 0) (.slice none 0 0) (.slice none 0 0) (.slice none 0 0) (.slice none 0 0) ⟨[], [], []⟩ :=
  ⟨Irs.nil w, ⟨rfl, .inl ⟨rfl, rfl⟩⟩, Strs.nil w, ⟨rfl, .inl ⟨rfl, rfl⟩⟩, ⟨rfl, .inl ⟨rfl, rfl⟩⟩, by simp, apt.none _, apt.none _, apt.none _, apt.none _, apt.none _, apt.none _, apt.none _, apt.none _, apt.none _, apt.none _⟩
theorem DR.keeps {w w' : World} {base : Nat} {vp vl vn va vi : Value} {r : Rd} (h : DR w base vp vl vn va vi r) (k : Keeps (fun _ => False) w w') : DR w' base vp vl vn va vi r :=
  ⟨h.code.keeps k (fun _ _ f => f), own_keeps h.labs k (fun _ _ f => f), h.names.keeps k (fun _ _ f => f), own_keeps h.ats k (fun _ _ f => f), own_keeps h.ins k (fun _ _ f => f), h.wf, h.pl, h.pn, h.pa, h.pi, h.ln, h.la, h.li, h.na, h.ni, h.ai⟩
theorem info_int1 : (Tryz.prog.info? 3).map (fun i => (i.zero, i.size, i.bytes)) = some (some (.int .i64 0), 1, 8) := by kernel_rfl
/-- A label more. -/
theorem DR.lab {w w0 : World} {vp vl vn va vi : Value} {r : Rd} (h : DR w w0.heap.size vp vl vn va vi r) (k : Keeps (fun _ => False) w0 w) (x : List UInt8) (hb : r.labs.length ≤ 1048576) :
    ∃ vl' w', (Builtin.append_ #[27, 27] 27 #[vl, .slice (some ⟨w.heap.size, 0, none⟩) 1 1]).run Tryz.prog (w.alloc (.cells #[.string ⟨x.toArray⟩, .int .i64 (r.code.length : Int)] 39)) = .ok vl' w' ∧
      DR w' w0.heap.size vp vl' vn va vi { r with labs := r.labs ++ [(x, r.code.length)] } ∧ Keeps (fun _ => False) w0 w' := by
  obtain ⟨v', w', h1, h2, h3⟩ := own_push1 (P := Tryz.prog) w w0.heap.size 27 27 39 _ 2 24 Tryz.underlying27 info_lab rfl (by decide) vl r.labs.length _ h.labs [.string ⟨x.toArray⟩, .int .i64 (r.code.length : Int)] rfl (by simp [Value.oneCell']) (by omega) (by decide) k.size
  have ow := fun {v : Value} {e : TypeId} {size n : Nat} {xs : List Value} (q : w.ownsRow w0.heap.size e size v n xs) => fun g (e : v.ownBlock = some g) => (own_block q e).1
  refine ⟨v', w', h1, ⟨⟨h.pl.symm.row h3 h.code.own, Nat.le_trans h.code.base h3.keeps.size⟩, by simpa [labV, keyV] using h2, ⟨h.ln.row h3 h.names.own, Nat.le_trans h.names.base h3.keeps.size⟩, h.la.row h3 h.ats, h.li.row h3 h.ins, h.wf, (h.pl.symm.grew h3 (ow h.code.own)).symm, h.pn, h.pa, h.pi, h.ln.grew h3 (ow h.names.own), h.la.grew h3 (ow h.ats), h.li.grew h3 (ow h.ins), h.na, h.ni, h.ai⟩, ?_⟩
  exact kept_grew h3 k (fun g e => (own_block h.labs e).2)
/-- An instruction more. -/
theorem DR.ins1 {w w0 : World} {vp vl vn va vi : Value} {r : Rd} (h : DR w w0.heap.size vp vl vn va vi r) (k : Keeps (fun _ => False) w0 w) (i : I5) (hi : i.wf) (hb : r.code.length ≤ 1048576) :
    ∃ vp' w', (Builtin.append_ #[23, 23] 23 #[vp, .slice (some ⟨w.heap.size, 0, none⟩) 1 1]).run Tryz.prog (w.alloc (.cells #[.int .i64 i.op, .int .i64 i.a, .int .i64 i.b, .int .i64 i.c, .int .u64 i.n] 37)) = .ok vp' w' ∧
      DR w' w0.heap.size vp' vl vn va vi { r with code := r.code ++ [i] } ∧ Keeps (fun _ => False) w0 w' := by
  obtain ⟨v', w', h1, h2, h3⟩ := h.code.push2 i hi (by omega)
  have ow := fun {v : Value} {e : TypeId} {size n : Nat} {xs : List Value} (q : w.ownsRow w0.heap.size e size v n xs) => fun g (e : v.ownBlock = some g) => (own_block q e).1
  refine ⟨v', w', h1, ⟨h2, h.pl.row h3 h.labs, ⟨h.pn.row h3 h.names.own, Nat.le_trans h.names.base h3.keeps.size⟩, h.pa.row h3 h.ats, h.pi.row h3 h.ins, fun j hj => ?_, h.pl.grew h3 (ow h.labs), h.pn.grew h3 (ow h.names.own), h.pa.grew h3 (ow h.ats), h.pi.grew h3 (ow h.ins), h.ln, h.la, h.li, h.na, h.ni, h.ai⟩, ?_⟩
  · rcases List.mem_append.1 hj with hj | hj
    · exact h.wf j hj
    · simp only [List.mem_singleton] at hj; subst hj; exact hi
  · exact kept_grew h3 k (fun g e => (own_block h.code.own e).2)
/-- A use of a label more. -/
theorem DR.use {w w0 : World} {vp vl vn va vi : Value} {r : Rd} (h : DR w w0.heap.size vp vl vn va vi r) (k : Keeps (fun _ => False) w0 w) (x : List UInt8) (a n : Nat) (hb : r.uses.length ≤ 1048576) :
    ∃ vn' w1 va' w2 vi' w3, (Builtin.append_ #[76, 76] 76 #[vn, .slice (some ⟨w.heap.size, 0, none⟩) 1 1]).run Tryz.prog (w.alloc (.cells #[.string ⟨x.toArray⟩] 9)) = .ok vn' w1 ∧
      (Builtin.append_ #[77, 77] 77 #[va, .slice (some ⟨w1.heap.size, 0, none⟩) 1 1]).run Tryz.prog (w1.alloc (.cells #[.int .i64 (a : Int)] 3)) = .ok va' w2 ∧
      (Builtin.append_ #[77, 77] 77 #[vi, .slice (some ⟨w2.heap.size, 0, none⟩) 1 1]).run Tryz.prog (w2.alloc (.cells #[.int .i64 (n : Int)] 3)) = .ok vi' w3 ∧
      DR w3 w0.heap.size vp vl vn' va' vi' { r with uses := r.uses ++ [(x, a, n)] } ∧ Keeps (fun _ => False) w0 w3 ∧
      (∀ g, g < w.heap.size → vn.ownBlock ≠ some g → va.ownBlock ≠ some g → vi.ownBlock ≠ some g → w3.heap[g]? = w.heap[g]?) := by
  obtain ⟨vn', w1, a1, a2, a3⟩ := h.names.push x (by simp; omega)
  have k1 := kept_grew a3 k (fun g e => (own_block h.names.own e).2)
  have at1 := h.na.row a3 h.ats
  have in1 := h.ni.row a3 h.ins
  have co1 := h.pn.symm.row a3 h.code.own
  have la1 := h.ln.symm.row a3 h.labs
  obtain ⟨va', w2, b1, b2, b3⟩ := own_push1 (P := Tryz.prog) w1 w0.heap.size 77 77 3 _ 1 8 Tryz.underlying77 info_int1 rfl (by decide) va r.uses.length _ at1 [.int .i64 (a : Int)] rfl (by simp [Value.oneCell']) (by omega) (by decide) k1.size
  have k2 := kept_grew b3 k1 (fun g e => (own_block at1 e).2)
  have n1a : apt va vn' := ((h.na.grew a3 (fun g e => (own_block h.ats e).1))).symm
  have nm2 : w2.ownsRow w0.heap.size 9 1 vn' (r.uses.map (fun u => u.1) ++ [x]).length ((r.uses.map (fun u => u.1) ++ [x]).map keyV) := n1a.row b3 a2.own
  have in2 := h.ai.row b3 in1
  have co2 := h.pa.symm.row b3 co1
  have la2 := h.la.symm.row b3 la1
  obtain ⟨vi', w3, c1, c2, c3⟩ := own_push1 (P := Tryz.prog) w2 w0.heap.size 77 77 3 _ 1 8 Tryz.underlying77 info_int1 rfl (by decide) vi r.uses.length _ in2 [.int .i64 (n : Int)] rfl (by simp [Value.oneCell']) (by omega) (by decide) k2.size
  have k3 := kept_grew c3 k2 (fun g e => (own_block in2 e).2)
  have pn' : apt vn' vp := h.pn.symm.grew a3 (fun g e => (own_block h.code.own e).1)
  have ln' : apt vn' vl := h.ln.symm.grew a3 (fun g e => (own_block h.labs e).1)
  have ni' : apt vn' vi := h.ni.grew a3 (fun g e => (own_block h.ins e).1)
  have pa' : apt va' vp := h.pa.symm.grew b3 (fun g e => (own_block co1 e).1)
  have la' : apt va' vl := h.la.symm.grew b3 (fun g e => (own_block la1 e).1)
  have na' : apt va' vn' := n1a.grew b3 (fun g e => (own_block a2.own e).1)
  have ai' : apt va' vi := h.ai.grew b3 (fun g e => (own_block in1 e).1)
  have at3 : w3.ownsRow w0.heap.size 3 1 va' (r.uses.length + 1) _ := ai'.symm.row c3 b2
  have nm3 := ni'.symm.row c3 nm2
  have co3 := h.pi.symm.row c3 co2
  have la3 := h.li.symm.row c3 la2
  refine ⟨vn', w1, va', w2, vi', w3, a1, b1, c1, ⟨⟨co3, k3.size⟩, la3, ⟨by simpa using nm3, k3.size⟩, by simpa using at3, by simpa using c2, h.wf, h.pl, pn'.symm, pa'.symm, (h.pi.symm.grew c3 (fun g e => (own_block co2 e).1)).symm, ln'.symm, la'.symm, (h.li.symm.grew c3 (fun g e => (own_block la2 e).1)).symm, na'.symm, (ni'.symm.grew c3 (fun g e => (own_block nm2 e).1)).symm, (ai'.symm.grew c3 (fun g e => (own_block b2 e).1)).symm⟩, k3, fun g hg e1 e2 e3 => ?_⟩
  exact (c3.keeps.block g (Nat.lt_of_lt_of_le (Nat.lt_of_lt_of_le hg a3.keeps.size) b3.keeps.size) e3).trans ((b3.keeps.block g (Nat.lt_of_lt_of_le hg a3.keeps.size) e2).trans (a3.keeps.block g hg e1))

theorem row1_at {w : World} {base : Nat} {e : TypeId} {v : Value} {n : Nat} {xs : List Value} (h : w.ownsRow base e 1 v n xs) (hn : 0 < n) : ∃ g cap, v = .slice (some ⟨g, 0, none⟩) n cap ∧ n ≤ cap ∧ ∀ k u, k < n → xs[k]? = some u → w.cell? ⟨g, k, none⟩ = some u := by
  rcases h.2 with ⟨rfl, h2⟩ | ⟨g, cap, cur, rfl, h1, h2, h3, h4, h5, h6⟩
  · omega
  · refine ⟨g, cap, rfl, h3, fun k u hk hu => ?_⟩
    rw [cell_of_block h2]
    rw [← h6, List.getElem?_take_of_lt (by omega)] at hu
    simpa using hu
/-- A use of a label, as it lies. -/
theorem DR.at {W : World} {base : Nat} {vp vl vn va vi : Value} {r : Rd} (h : DR W base vp vl vn va vi r) (k : Nat) (hk : k < r.uses.length) :
    ∃ gn cn ga ca gi ci, vn = .slice (some ⟨gn, 0, none⟩) r.uses.length cn ∧ va = .slice (some ⟨ga, 0, none⟩) r.uses.length ca ∧ vi = .slice (some ⟨gi, 0, none⟩) r.uses.length ci ∧ r.uses.length ≤ cn ∧ r.uses.length ≤ ca ∧ r.uses.length ≤ ci ∧
      W.cell? ⟨gn, k, none⟩ = some (.string ⟨(r.uses[k]).1.toArray⟩) ∧ W.cell? ⟨ga, k, none⟩ = some (.int .i64 ((r.uses[k]).2.1 : Int)) ∧ W.cell? ⟨gi, k, none⟩ = some (.int .i64 ((r.uses[k]).2.2 : Int)) := by
  have hp : 0 < r.uses.length := by omega
  have hn := h.names.own
  rw [List.length_map] at hn
  obtain ⟨gn, cn, e1, l1, c1⟩ := row1_at hn hp
  obtain ⟨ga, ca, e2, l2, c2⟩ := row1_at h.ats hp
  obtain ⟨gi, ci, e3, l3, c3⟩ := row1_at h.ins hp
  exact ⟨gn, cn, ga, ca, gi, ci, e1, e2, e3, l1, l2, l3, c1 k _ hk (by simp [hk, keyV]), c2 k _ hk (by simp [hk]), c3 k _ hk (by simp [hk])⟩
/-- A label's place laid into its instruction. -/
theorem DR.setN {W w0 : World} {vp vl vn va vi : Value} {r : Rd} (h : DR W w0.heap.size vp vl vn va vi r) (k : Keeps (fun _ => False) w0 W) (a : Nat) (ha : a < r.code.length) (p : Nat) (hp : p < 18446744073709551616) :
    ∃ g cap x, vp = .slice (some ⟨g, 0, none⟩) r.code.length cap ∧ W.cell? ⟨g, a * 5 + 4, none⟩ = some x ∧ W.frozen? ⟨g, a * 5 + 4, none⟩ = false ∧
      DR (W.setCell ⟨g, a * 5 + 4, none⟩ (.int .u64 (p : Int))) w0.heap.size vp vl vn va vi { r with code := setN r.code a p } ∧ Keeps (fun _ => False) w0 (W.setCell ⟨g, a * 5 + 4, none⟩ (.int .u64 (p : Int))) := by
  obtain ⟨g, cap, x, h1, h2, h3, h4, h5⟩ := h.code.setN a ha p
  have ks : Keeps (fun k => k = g) W (W.setCell ⟨g, a * 5 + 4, none⟩ (.int .u64 (p : Int))) := (Keeps.refl (fun k => k = g) W).setCell (p := ⟨g, a * 5 + 4, none⟩) (.inr rfl) _
  have hg := (own_block h.code.own h2).2
  have ne : ∀ {v : Value}, apt vp v → ∀ q, v.ownBlock = some q → ¬ q = g := fun hv q e f => by subst f; exact hv q h2 e
  refine ⟨g, cap, x, h1, h3, h4, ⟨h5, own_keeps h.labs ks (ne h.pl), ⟨own_keeps h.names.own ks (ne h.pn), Nat.le_trans h.names.base ks.size⟩, own_keeps h.ats ks (ne h.pa), own_keeps h.ins ks (ne h.pi), setN_wf h.wf hp, h.pl, h.pn, h.pa, h.pi, h.ln, h.la, h.li, h.na, h.ni, h.ai⟩, ?_⟩
  exact k.setCell (p := ⟨g, a * 5 + 4, none⟩) (.inl hg) _

/-- Labels where they lie, with their names. -/
structure LabN (w : World) (v : Value) (M : List (List UInt8 × Nat)) : Prop where
  form : ∃ a cap, v = .slice a M.length cap ∧ ∀ k (hk : k < M.length), ∃ g off, a = some ⟨g, off, none⟩ ∧ w.cell? ⟨g, off + k * 2, none⟩ = some (.string ⟨(M[k]'hk).1.toArray⟩) ∧ w.cell? ⟨g, off + k * 2 + 1, none⟩ = some (.int .i64 ((M[k]'hk).2 : Int))
theorem LabN.keeps {w w' : World} {v : Value} {M : List (List UInt8 × Nat)} (h : LabN w v M) (k : Keeps (fun _ => False) w w') : LabN w' v M := by
  obtain ⟨a, cap, rfl, hc⟩ := h
  refine ⟨⟨a, cap, rfl, fun j hj => ?_⟩⟩
  obtain ⟨g, off, rfl, c0, c1⟩ := hc j hj
  have hg : g < w.heap.size := World.block_lt_of_cell? _ _ c0
  have hb := k.block g hg (fun f => f)
  exact ⟨g, off, rfl, by rw [← c0]; simp [World.cell?, hb], by rw [← c1]; simp [World.cell?, hb]⟩
theorem labV_at0 : ∀ (M : List (List UInt8 × Nat)) (k : Nat) (hk : k < M.length), (labV M)[k * 2]? = some (keyV (M[k]).1) ∧ (labV M)[k * 2 + 1]? = some (.int .i64 ((M[k]).2 : Int))
  | [], k, hk => absurd hk (by simp)
  | q :: M, 0, _ => ⟨rfl, rfl⟩
  | q :: M, k + 1, hk => by
    have h := labV_at0 M k (by simpa using hk)
    have e : labV (q :: M) = [keyV q.1, .int .i64 (q.2 : Int)] ++ labV M := rfl
    rw [e, List.getElem?_append_right (by simp; omega), List.getElem?_append_right (by simp; omega)]
    have e1 : (k + 1) * 2 - [keyV q.1, Value.int .i64 (q.2 : Int)].length = k * 2 := by simp; omega
    have e2 : (k + 1) * 2 + 1 - [keyV q.1, Value.int .i64 (q.2 : Int)].length = k * 2 + 1 := by simp; omega
    rw [e1, e2]
    simpa using h
theorem labN_of_own {w : World} {base : Nat} {v : Value} {M : List (List UInt8 × Nat)} (h : w.ownsRow base 39 2 v M.length (labV M)) : LabN w v M := by
  rcases h.2 with ⟨rfl, h2⟩ | ⟨g, cap, cur, rfl, h1, h2, h3, h4, h5, h6⟩
  · exact ⟨⟨none, 0, by rw [h2], fun k hk => by omega⟩⟩
  · refine ⟨⟨_, cap, rfl, fun k hk => ⟨g, 0, rfl, ?_, ?_⟩⟩⟩
    · rw [cell_of_block h2, Nat.zero_add]
      have := (labV_at0 M k hk).1
      rw [← h6, List.getElem?_take_of_lt (by omega)] at this
      simpa [keyV] using this
    · rw [cell_of_block h2, Nat.zero_add]
      have := (labV_at0 M k hk).2
      rw [← h6, List.getElem?_take_of_lt (by omega)] at this
      simpa using this
theorem LabN.at {w : World} {v : Value} {M : List (List UInt8 × Nat)} (h : LabN w v M) (k : Nat) (hk : k < M.length) : ∃ g off cap, v = .slice (some ⟨g, off, none⟩) M.length cap ∧ w.cell? ⟨g, off + k * 2, none⟩ = some (.string ⟨(M[k]'hk).1.toArray⟩) ∧ w.cell? ⟨g, off + k * 2 + 1, none⟩ = some (.int .i64 ((M[k]).2 : Int)) := by
  obtain ⟨a, cap, rfl, hc⟩ := h
  obtain ⟨g, off, rfl, q⟩ := hc k hk
  exact ⟨g, off, cap, rfl, q⟩

set_option maxRecDepth 100000 in
set_option maxHeartbeats 4000000 in
theorem rplace_any (v : Value) (M : List (List UInt8 × Nat)) (hM : M.length ≤ 1048576) (x : List UInt8) (w : World) (h : LabN w v M) : Calls Tryz.prog 37 #[v, .string ⟨x.toArray⟩] w fun e w' => e = .returned (.int .i64 (plc M x)) ∧ w' = w := by
  have HA : Hid (∀ k (hk : k < M.length), _) := fun k hk => h.at k hk
  obtain ⟨a0, c0, rfl, _⟩ := h
  go_enter Tryz.func37, Tryz.ntmps37
  go_wp2_with fail
  go_loopw [5] (fun u wr => ∃ (k : Nat), u = .int .i64 k ∧ k ≤ M.length ∧ wr = w ∧ Hid (∀ j (hj : j < M.length), j < k → (M[j]).1 ≠ x)) (fun u _ => M.length - (intOf u).toNat)
  case atStart => exact ⟨0, rfl, Nat.zero_le _, rfl, fun j hj h0 => absurd h0 (by omega)⟩
  case round =>
    obtain ⟨k, rfl, hk, rfl, hh⟩ := hrel
    by_cases hlt : k < M.length
    · obtain ⟨ga, off, cap, hv, x0, x1⟩ := HA.out k hlt
      simp only [Value.slice.injEq] at hv
      obtain ⟨rfl, -, rfl⟩ := hv
      have hki : (k : Int) < M.length := by omega
      by_cases he : (M[k]).1 = x
      · have hr : Hid (plc M x = ((M[k]).2 : Int)) := plc_hit hlt hh.out he
        rw [he] at x0
        clear hh
        generalize (M[k]'hlt).2 = pp at *
        go_wp2_with fail
        go_ret
        exact ⟨by rw [hr.out]; rfl, rfl⟩
      · have hbb : (ByteArray.toList ⟨((M[k]).1).toArray⟩ == x) = false := by simpa using he
        have hn : Hid (∀ j (hj : j < M.length), j < k + 1 → (M[j]).1 ≠ x) := fun j hj hjk => by
          by_cases hjj : j = k
          · subst hjj; exact he
          · exact hh.out j hj (by omega)
        clear hh
        generalize ((M[k]'hlt).1).toArray = q at *
        go_wp2_with fail
        go_roundw
        · exact ⟨k + 1, by simp, by omega, by first | rfl | trivial, hn⟩
        · simp [intOf]; omega
    · have hki : ¬ (k : Int) < M.length := by omega
      obtain rfl : k = M.length := by omega
      have hr : Hid (plc M x = -1) := plc_none (fun j hj => hh.out j hj hj)
      clear hh
      go_wp2_with fail
      go_ret
      exact ⟨by rw [hr.out]; rfl, rfl⟩
set_option maxRecDepth 100000 in
set_option maxHeartbeats 4000000 in
theorem rsamelabs_any (va vb : Value) (M : List (List UInt8 × Nat)) (hL : M.length ≤ 1048576) (w : World) (ha : LabN w va M) (hb : LabN w vb M) : Calls Tryz.prog 14 #[va, vb] w fun e w' => e = .returned (.bool true) ∧ Keeps (fun _ => False) w w' := by
  have HA : Hid (∀ X, Keeps (fun _ => False) w X → LabN X va M) := fun X k => ha.keeps k
  have HB : Hid (∀ X, Keeps (fun _ => False) w X → LabN X vb M) := fun X k => hb.keeps k
  have k0 := Keeps.refl (fun _ => False) w
  obtain ⟨a0, c0, rfl, _⟩ := ha
  obtain ⟨a1, c1, rfl, _⟩ := hb
  go_enter Tryz.func14, Tryz.ntmps14
  go_wp2_with fail
  go_loopw [5] (fun u wr => ∃ (k : Nat), u = .int .i64 k ∧ k ≤ M.length ∧ Keeps (fun _ => False) w wr) (fun u _ => M.length - (intOf u).toNat)
  case atStart => exact ⟨0, rfl, Nat.zero_le _, k0⟩
  case round =>
    obtain ⟨k, rfl, hk, kr⟩ := hrel
    by_cases hlt : k < M.length
    · obtain ⟨ga, off, cap, hv, x0, x1⟩ := (HA.out wr kr).at k hlt
      simp only [Value.slice.injEq] at hv
      obtain ⟨rfl, -, rfl⟩ := hv
      obtain ⟨gb, offb, capb, hv, y0, y1⟩ := (HB.out wr kr).at k hlt
      simp only [Value.slice.injEq] at hv
      obtain ⟨rfl, -, rfl⟩ := hv
      have hki : (k : Int) < M.length := by omega
      generalize M[k]'hlt = i at *
      obtain ⟨nm', pp⟩ := i
      dsimp only at x0 x1 y0 y1
      generalize nm'.toArray = q at *
      go_wp2_with fail
      go_quiet (fail)
      go_wp2_with fail
      go_roundw
      · exact ⟨k + 1, by simp, by omega, kr.drewN _⟩
      · simp [intOf]; omega
    · obtain rfl : k = M.length := by omega
      go_wp2_with fail
      go_ret
      exact ⟨rfl, kr⟩
end Go.Proofs.YtkkmkfldldglgaaGreatDoor
