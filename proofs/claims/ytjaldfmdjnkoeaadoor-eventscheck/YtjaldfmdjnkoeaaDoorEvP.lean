
/- A walk of read (package events). No statement of the seat is proved here. -/
import Derived.Test.YtjaldfmdjnkoeaaDoorEvO
import Derived.Test.YtjaldfmdjnkoeaaDoorEvX
import Derived.Laws.ResultCell
import Derived.Laws.Tables
namespace Go.Proofs.YtjaldfmdjnkoeaaDoor
open Go.RowKit Go.Shelf

/-- The event of a line, or none. -/
def finP (e : Ev) (more : Bool) : Option Ev := if more = false ∧ formedE e = true then some e else none
def readE (l : List UInt8) : Option Ev :=
  if numP 7 (cutA 32 l).1 = false then none else
  if (kindP (cutA 32 (cutA 32 l).2.1).1).2.2 = false then none else
  if adB (kindP (cutA 32 (cutA 32 l).2.1).1).1 = true then
    (if numP 18446744073709551615 (cutA 32 (cutA 32 (cutA 32 l).2.1).2.1).1 = false then none else
     if numP 18446744073709551615 (cutA 32 (cutA 32 (cutA 32 (cutA 32 l).2.1).2.1).2.1).1 = false then none else
     finP ⟨(parP (cutA 32 l).1).1, (kindP (cutA 32 (cutA 32 l).2.1).1).1, (parP (cutA 32 (cutA 32 (cutA 32 l).2.1).2.1).1).1, (parP (cutA 32 (cutA 32 (cutA 32 (cutA 32 l).2.1).2.1).2.1).1).1, (kindP (cutA 32 (cutA 32 l).2.1).1).2.1, 0⟩ (cutA 32 (cutA 32 (cutA 32 (cutA 32 l).2.1).2.1).2.1).2.2)
  else if wdB (kindP (cutA 32 (cutA 32 l).2.1).1).1 = true then
    (if numP 18446744073709551615 (cutA 32 (cutA 32 (cutA 32 l).2.1).2.1).1 = false then none else
     finP ⟨(parP (cutA 32 l).1).1, (kindP (cutA 32 (cutA 32 l).2.1).1).1, 0, (parP (cutA 32 (cutA 32 (cutA 32 l).2.1).2.1).1).1, (kindP (cutA 32 (cutA 32 l).2.1).1).2.1, 0⟩ (cutA 32 (cutA 32 (cutA 32 l).2.1).2.1).2.2)
  else if erB (kindP (cutA 32 (cutA 32 l).2.1).1).1 = true then
    (if numP 6 (cutA 32 (cutA 32 (cutA 32 l).2.1).2.1).1 = false then none else
     finP ⟨(parP (cutA 32 l).1).1, (kindP (cutA 32 (cutA 32 l).2.1).1).1, 0, 0, (kindP (cutA 32 (cutA 32 l).2.1).1).2.1, (parP (cutA 32 (cutA 32 (cutA 32 l).2.1).2.1).1).1⟩ (cutA 32 (cutA 32 (cutA 32 l).2.1).2.1).2.2)
  else finP ⟨(parP (cutA 32 l).1).1, (kindP (cutA 32 (cutA 32 l).2.1).1).1, 0, 0, (kindP (cutA 32 (cutA 32 l).2.1).1).2.1, 0⟩ (cutA 32 (cutA 32 l).2.1).2.2
theorem kindP_in {l : List UInt8} (h : (kindP l).2.2 = true) : 1 ≤ (kindP l).1 ∧ (kindP l).1 ≤ 12 := by
  unfold kindP at h ⊢
  split
  · simp
  · rename_i hn
    rw [if_neg hn] at h
    cases hf : (List.range 13).find? (fun k => decide (0 < k) && decide (shL k = l)) with
    | none => rw [hf] at h; simp at h
    | some k =>
      obtain ⟨h1, h2, _⟩ := List.find?_range_eq_some.1 hf
      simp at h1 h2
      dsimp only
      omega
theorem numP_le {m : Nat} {l : List UInt8} (h : numP m l = true) : (parP l).1 ≤ m := by
  unfold numP at h
  simp only [Bool.and_eq_true, decide_eq_true_eq] at h
  exact h.1.2
theorem size_ev : (Tryd.prog.info? 44).map (·.size) = some 6 := by kernel_rfl
theorem ev_ret {fn : Func} {t p : Tmp} (h : fn.results = #[.cell p 44, .tmp t]) (tmps : Array Value) (w : World) (b : Nat) (cs : Array Value) (hb : w.heap[b]? = some (.cells cs 44 (0, 0))) (hs : cs.size = 6)
    (hp : tmps.getD p undef = .pointer (some ⟨b, 0, none⟩)) : (results fn tmps).run Tryd.prog w = .ok (.tuple #[.agg cs, tmps.getD t undef]) w := by
  rw [results_cell_tmp h, hp]
  simp [asAddr, run_loadVar_row w b 44 44 cs (0, 0) _ hb Tryd.underlying44 rfl (by rw [size_ev, hs]), Result.andThen]
def evV (e : Ev) : Array Value := #[.int .i64 e.th, .int .i64 e.kd, .int .u64 e.ad, .int .u64 e.wd, .bool e.own, .int .i64 e.er]
theorem ev_size (e : Ev) : (Tryd.prog.info? 44).map (·.size) = some (evV e).size := size_ev
theorem ev_all (e : Ev) : (evV e).all (·.oneCell') = true := by simp [evV, Value.oneCell']
theorem size_sh : (Tryd.prog.info? 107).map (·.size) = some 4 := by kernel_rfl
def rkR (l : Nat) : Nat := if l = 0 then 0 else if l = 4 then 1 else if l = 3 then 2 else if l = 2 then 3 else 4

set_option maxRecDepth 100000 in
set_option maxHeartbeats 8000000 in
theorem read_any (l : List UInt8) (hl : l.length < 4294967281) (w : World) (hg : Gv w) (h8 : 8 ≤ w.heap.size) :
    Calls Tryd.prog 50 #[.string ⟨l.toArray⟩] w fun ex w' => ex = .returned (.tuple #[.agg (evV ((readE l).getD ev0)), .bool (readE l).isSome]) ∧ Keeps (fun _ => False) w w' := by
  have hR : readE l = readE l := rfl
  conv at hR => rhs; unfold readE
  have hA := cutA_len 32 l
  have hB := cutA_len 32 (cutA 32 l).2.1
  have hC := cutA_len 32 (cutA 32 (cutA 32 l).2.1).2.1
  have N1 : ∀ p (m : Bool) W, W.heap[p]? = some (.cells #[.string ⟨l.toArray⟩, .bool m] 114 (0, 0)) → Gv W → 8 ≤ p → Calls Tryd.prog 67 #[.pointer (some ⟨p, 0, none⟩), .int .u64 7] W fun ex w' => ex = .returned (.tuple #[.int .u64 ((parP (cutA 32 l).1).1 : Int), .bool (numP 7 (cutA 32 l).1)]) ∧ w'.heap[p]? = some (.cells #[.string ⟨(cutA 32 l).2.1.toArray⟩, .bool (cutA 32 l).2.2] 114 (0, 0)) ∧ Keeps (fun q => q = p) W w' := fun p m W hb hg h8 => number_any p l hl m 7 W hb hg h8
  have K1 := fun p m W hb hg h8 => kind_any p (cutA 32 l).2.1 (by omega) m W hb hg h8
  have N2 : ∀ p (m : Bool) W, W.heap[p]? = some (.cells #[.string ⟨(cutA 32 (cutA 32 l).2.1).2.1.toArray⟩, .bool m] 114 (0, 0)) → Gv W → 8 ≤ p → Calls Tryd.prog 67 #[.pointer (some ⟨p, 0, none⟩), .int .u64 18446744073709551615] W fun ex w' => ex = .returned (.tuple #[.int .u64 ((parP (cutA 32 (cutA 32 (cutA 32 l).2.1).2.1).1).1 : Int), .bool (numP 18446744073709551615 (cutA 32 (cutA 32 (cutA 32 l).2.1).2.1).1)]) ∧ w'.heap[p]? = some (.cells #[.string ⟨(cutA 32 (cutA 32 (cutA 32 l).2.1).2.1).2.1.toArray⟩, .bool (cutA 32 (cutA 32 (cutA 32 l).2.1).2.1).2.2] 114 (0, 0)) ∧ Keeps (fun q => q = p) W w' := fun p m W hb hg h8 => number_any p (cutA 32 (cutA 32 l).2.1).2.1 (by omega) m 18446744073709551615 W hb hg h8
  have N2e : ∀ p (m : Bool) W, W.heap[p]? = some (.cells #[.string ⟨(cutA 32 (cutA 32 l).2.1).2.1.toArray⟩, .bool m] 114 (0, 0)) → Gv W → 8 ≤ p → Calls Tryd.prog 67 #[.pointer (some ⟨p, 0, none⟩), .int .u64 6] W fun ex w' => ex = .returned (.tuple #[.int .u64 ((parP (cutA 32 (cutA 32 (cutA 32 l).2.1).2.1).1).1 : Int), .bool (numP 6 (cutA 32 (cutA 32 (cutA 32 l).2.1).2.1).1)]) ∧ w'.heap[p]? = some (.cells #[.string ⟨(cutA 32 (cutA 32 (cutA 32 l).2.1).2.1).2.1.toArray⟩, .bool (cutA 32 (cutA 32 (cutA 32 l).2.1).2.1).2.2] 114 (0, 0)) ∧ Keeps (fun q => q = p) W w' := fun p m W hb hg h8 => number_any p (cutA 32 (cutA 32 l).2.1).2.1 (by omega) m 6 W hb hg h8
  have N3 : ∀ p (m : Bool) W, W.heap[p]? = some (.cells #[.string ⟨(cutA 32 (cutA 32 (cutA 32 l).2.1).2.1).2.1.toArray⟩, .bool m] 114 (0, 0)) → Gv W → 8 ≤ p → Calls Tryd.prog 67 #[.pointer (some ⟨p, 0, none⟩), .int .u64 18446744073709551615] W fun ex w' => ex = .returned (.tuple #[.int .u64 ((parP (cutA 32 (cutA 32 (cutA 32 (cutA 32 l).2.1).2.1).2.1).1).1 : Int), .bool (numP 18446744073709551615 (cutA 32 (cutA 32 (cutA 32 (cutA 32 l).2.1).2.1).2.1).1)]) ∧ w'.heap[p]? = some (.cells #[.string ⟨(cutA 32 (cutA 32 (cutA 32 (cutA 32 l).2.1).2.1).2.1).2.1.toArray⟩, .bool (cutA 32 (cutA 32 (cutA 32 (cutA 32 l).2.1).2.1).2.1).2.2] 114 (0, 0)) ∧ Keeps (fun q => q = p) W w' := fun p m W hb hg h8 => number_any p (cutA 32 (cutA 32 (cutA 32 l).2.1).2.1).2.1 (by omega) m 18446744073709551615 W hb hg h8
  have hk12 := @kindP_in (cutA 32 (cutA 32 l).2.1).1
  have hn7 := @numP_le 7 (cutA 32 l).1
  have hn6 := @numP_le 6 (cutA 32 (cutA 32 (cutA 32 l).2.1).2.1).1
  generalize readE l = z at *
  generalize cutA 32 (cutA 32 (cutA 32 (cutA 32 l).2.1).2.1).2.1 = d at *
  generalize cutA 32 (cutA 32 (cutA 32 l).2.1).2.1 = c at *
  generalize cutA 32 (cutA 32 l).2.1 = b at *
  generalize cutA 32 l = a at *
  obtain ⟨a1, a2, a3⟩ := a
  obtain ⟨b1, b2, b3⟩ := b
  obtain ⟨c1, c2, c3⟩ := c
  obtain ⟨d1, d2, d3⟩ := d
  dsimp only at *
  generalize (parP a1).1 = ta at *
  generalize numP 7 a1 = na at *
  generalize kindP b1 = kk at *
  obtain ⟨kd, ow, ok⟩ := kk
  dsimp only at *
  generalize (parP c1).1 = uc at *
  generalize numP 18446744073709551615 c1 = nc at *
  generalize numP 6 c1 = nc6 at *
  generalize (parP d1).1 = ud at *
  generalize numP 18446744073709551615 d1 = nd at *
  have HR : Hid (z = _) := hR
  clear hR hA hB hC
  have HG : Hid (∀ X, Keeps (fun _ => False) w X → Gv X) := fun X k => hg.keeps k
  clear hg
  obtain ⟨rb, hrb⟩ : ∃ rb, rb = w.heap.size := ⟨_, rfl⟩
  obtain ⟨eb, heb⟩ : ∃ eb, eb = w.heap.size + 1 := ⟨_, rfl⟩
  obtain ⟨sb, hsb⟩ : ∃ sb, sb = w.heap.size + 1 + 1 := ⟨_, rfl⟩
  obtain ⟨pb, hpb⟩ : ∃ pb, pb = w.heap.size + 1 + 1 + 1 := ⟨_, rfl⟩
  have o1 := (MapKept.heap_alloc w (.cells #[.int .i64 0, .int .i64 0, .int .u64 0, .int .u64 0, .bool false, .int .i64 0] 44)).1
  have o2 := (MapKept.heap_alloc (w.alloc (.cells #[.int .i64 0, .int .i64 0, .int .u64 0, .int .u64 0, .bool false, .int .i64 0] 44)) (.cells #[.int .i64 0, .int .i64 0, .int .u64 0, .int .u64 0, .bool false, .int .i64 0] 44)).1
  have o3 := (MapKept.heap_alloc ((w.alloc (.cells #[.int .i64 0, .int .i64 0, .int .u64 0, .int .u64 0, .bool false, .int .i64 0] 44)).alloc (.cells #[.int .i64 0, .int .i64 0, .int .u64 0, .int .u64 0, .bool false, .int .i64 0] 44)) (.cells #[.string ⟨#[]⟩, .bool false, .bool false, .bool false] 107)).1
  have o4 := (MapKept.heap_alloc (((w.alloc (.cells #[.int .i64 0, .int .i64 0, .int .u64 0, .int .u64 0, .bool false, .int .i64 0] 44)).alloc (.cells #[.int .i64 0, .int .i64 0, .int .u64 0, .int .u64 0, .bool false, .int .i64 0] 44)).alloc (.cells #[.string ⟨#[]⟩, .bool false, .bool false, .bool false] 107)) (.cells #[.string ⟨l.toArray⟩, .bool false] 114)).1
  have z1 : (w.alloc (.cells #[.int .i64 0, .int .i64 0, .int .u64 0, .int .u64 0, .bool false, .int .i64 0] 44)).heap.size = w.heap.size + 1 := by simp
  have z2 : ((w.alloc (.cells #[.int .i64 0, .int .i64 0, .int .u64 0, .int .u64 0, .bool false, .int .i64 0] 44)).alloc (.cells #[.int .i64 0, .int .i64 0, .int .u64 0, .int .u64 0, .bool false, .int .i64 0] 44)).heap.size = w.heap.size + 1 + 1 := by simp
  have z3 : (((w.alloc (.cells #[.int .i64 0, .int .i64 0, .int .u64 0, .int .u64 0, .bool false, .int .i64 0] 44)).alloc (.cells #[.int .i64 0, .int .i64 0, .int .u64 0, .int .u64 0, .bool false, .int .i64 0] 44)).alloc (.cells #[.string ⟨#[]⟩, .bool false, .bool false, .bool false] 107)).heap.size = w.heap.size + 1 + 1 + 1 := by simp
  rw [z1] at o2
  rw [z2] at o3
  rw [z3] at o4
  have KW0 : Keeps (fun _ => False) w ((((w.alloc (.cells #[.int .i64 0, .int .i64 0, .int .u64 0, .int .u64 0, .bool false, .int .i64 0] 44)).alloc (.cells #[.int .i64 0, .int .i64 0, .int .u64 0, .int .u64 0, .bool false, .int .i64 0] 44)).alloc (.cells #[.string ⟨#[]⟩, .bool false, .bool false, .bool false] 107)).alloc (.cells #[.string ⟨l.toArray⟩, .bool false] 114)) := ((((Keeps.refl _ w).alloc _).alloc _).alloc _).alloc _
  have bR0 : ((((w.alloc (.cells #[.int .i64 0, .int .i64 0, .int .u64 0, .int .u64 0, .bool false, .int .i64 0] 44)).alloc (.cells #[.int .i64 0, .int .i64 0, .int .u64 0, .int .u64 0, .bool false, .int .i64 0] 44)).alloc (.cells #[.string ⟨#[]⟩, .bool false, .bool false, .bool false] 107)).alloc (.cells #[.string ⟨l.toArray⟩, .bool false] 114)).heap[rb]? = some (.cells (evV ev0) 44 (0, 0)) := by rw [hrb]; exact (Below.heap_alloc _ _ _ (by rw [z3]; omega)).trans ((Below.heap_alloc _ _ _ (by rw [z2]; omega)).trans ((Below.heap_alloc _ _ _ (by rw [z1]; omega)).trans o1))
  have bE0 : ((((w.alloc (.cells #[.int .i64 0, .int .i64 0, .int .u64 0, .int .u64 0, .bool false, .int .i64 0] 44)).alloc (.cells #[.int .i64 0, .int .i64 0, .int .u64 0, .int .u64 0, .bool false, .int .i64 0] 44)).alloc (.cells #[.string ⟨#[]⟩, .bool false, .bool false, .bool false] 107)).alloc (.cells #[.string ⟨l.toArray⟩, .bool false] 114)).heap[eb]? = some (.cells #[.int .i64 0, .int .i64 0, .int .u64 0, .int .u64 0, .bool false, .int .i64 0] 44 (0, 0)) := by rw [heb]; exact (Below.heap_alloc _ _ _ (by rw [z3]; omega)).trans ((Below.heap_alloc _ _ _ (by rw [z2]; omega)).trans o2)
  have bS0 : ((((w.alloc (.cells #[.int .i64 0, .int .i64 0, .int .u64 0, .int .u64 0, .bool false, .int .i64 0] 44)).alloc (.cells #[.int .i64 0, .int .i64 0, .int .u64 0, .int .u64 0, .bool false, .int .i64 0] 44)).alloc (.cells #[.string ⟨#[]⟩, .bool false, .bool false, .bool false] 107)).alloc (.cells #[.string ⟨l.toArray⟩, .bool false] 114)).heap[sb]? = some (.cells #[.string ⟨#[]⟩, .bool false, .bool false, .bool false] 107 (0, 0)) := by rw [hsb]; exact (Below.heap_alloc _ _ _ (by rw [z3]; omega)).trans o3
  have bP0 : ((((w.alloc (.cells #[.int .i64 0, .int .i64 0, .int .u64 0, .int .u64 0, .bool false, .int .i64 0] 44)).alloc (.cells #[.int .i64 0, .int .i64 0, .int .u64 0, .int .u64 0, .bool false, .int .i64 0] 44)).alloc (.cells #[.string ⟨#[]⟩, .bool false, .bool false, .bool false] 107)).alloc (.cells #[.string ⟨l.toArray⟩, .bool false] 114)).heap[pb]? = some (.cells #[.string ⟨l.toArray⟩, .bool false] 114 (0, 0)) := by rw [hpb]; exact o4
  clear z1 z2 z3 o1 o2 o3 o4
  have hre : rb < eb := by omega
  have hes : eb < sb := by omega
  have hsp : sb < pb := by omega
  have hwr : w.heap.size ≤ rb := by omega
  have hp8 : 8 ≤ pb := by omega
  have HZR : Hid (z = none → (Ending.returned (.tuple #[.agg (evV ev0), .bool false])) = .returned (.tuple #[.agg (evV (z.getD ev0)), .bool z.isSome])) := fun h => by rw [h]; rfl
  go_enter Tryd.func50, Tryd.ntmps50
  go_wp2_with fail
  refine wp_scope_ahead rkR ?_
  go_wp2_with fail
  rw [← hpb, ← hsb, ← heb, ← hrb]
  clear hpb hsb heb hrb
  generalize ((((w.alloc (.cells #[.int .i64 0, .int .i64 0, .int .u64 0, .int .u64 0, .bool false, .int .i64 0] 44)).alloc (.cells #[.int .i64 0, .int .i64 0, .int .u64 0, .int .u64 0, .bool false, .int .i64 0] 44)).alloc (.cells #[.string ⟨#[]⟩, .bool false, .bool false, .bool false] 107)).alloc (.cells #[.string ⟨l.toArray⟩, .bool false] 114)) = W0 at *
  refine (N1 pb false W0 bP0 (HG.out _ KW0) hp8).mono ?_
  rintro ex W1 ⟨rfl, bP1, kP1⟩
  have bR1 := (kP1.block rb (lt_of_block bR0) (by omega)).trans bR0
  have bE1 := (kP1.block eb (lt_of_block bE0) (by omega)).trans bE0
  have bS1 := (kP1.block sb (lt_of_block bS0) (by omega)).trans bS0
  have KW1 : Keeps (fun _ => False) w W1 := KW0.young kP1 (fun q hq => by omega)
  clear kP1 N1
  have ce01 : W1.cell? ⟨eb, 0, none⟩ = some (.int .i64 0) := by rw [cell_of_block bE1]; rfl
  have ce11 : W1.cell? ⟨eb, 1, none⟩ = some (.int .i64 0) := by rw [cell_of_block bE1]; rfl
  have ce21 : W1.cell? ⟨eb, 2, none⟩ = some (.int .u64 0) := by rw [cell_of_block bE1]; rfl
  have ce31 : W1.cell? ⟨eb, 3, none⟩ = some (.int .u64 0) := by rw [cell_of_block bE1]; rfl
  have ce41 : W1.cell? ⟨eb, 4, none⟩ = some (.bool false) := by rw [cell_of_block bE1]; rfl
  have ce51 : W1.cell? ⟨eb, 5, none⟩ = some (.int .i64 0) := by rw [cell_of_block bE1]; rfl
  have fe01 : W1.frozen? ⟨eb, 0, none⟩ = false := frozen_of_block bE1 _
  have fe11 : W1.frozen? ⟨eb, 1, none⟩ = false := frozen_of_block bE1 _
  have fe21 : W1.frozen? ⟨eb, 2, none⟩ = false := frozen_of_block bE1 _
  have fe31 : W1.frozen? ⟨eb, 3, none⟩ = false := frozen_of_block bE1 _
  have fe41 : W1.frozen? ⟨eb, 4, none⟩ = false := frozen_of_block bE1 _
  have fe51 : W1.frozen? ⟨eb, 5, none⟩ = false := frozen_of_block bE1 _
  cases na
  · go_wp2_with fail
    first | change ahead _ _ _ _ _ _ _ _ | (refine wp_goto ?_; change ahead _ _ _ _ _ _ _ _)
    refine ahead_go rfl ?_
    have hz : Hid (z = none) := by show z = none; rw [HR.out]; simp []
    go_wp2_with (refine wpList_store_row rfl 44 _ _ rfl rb (evV ev0) rfl rfl 44 _ bR1 (ev_size _) rfl (ev_all _) ?_)
    simp only [jumps]
    refine bodyPost_ret (ev_ret rfl _ _ rb (evV ev0) (setRow_heap _ _ _ _ _ _ bR1) rfl rfl) rfl ?_
    exact ⟨HZR.out hz.out, KW1.row hwr _⟩
  · have hta := hn7 rfl
    have hta2 : (ta : Int) ≤ 7 := by omega
    clear hn7
    go_wp2_with fail
    obtain ⟨W2, hX2⟩ : ∃ X, X = W1.setCell ⟨eb, 0, none⟩ (.int .i64 (ta : Int)) := ⟨_, rfl⟩
    have bR2 : W2.heap[rb]? = some (.cells (evV ev0) 44 (0, 0)) := by rw [hX2]; exact (Below.heap_setCell _ _ _ _ (by show rb ≠ eb; omega)).trans bR1
    have bE2 : W2.heap[eb]? = some (.cells #[.int .i64 (ta : Int), .int .i64 0, .int .u64 0, .int .u64 0, .bool false, .int .i64 0] 44 (0, 0)) := by rw [hX2]; exact block_set bE1 0 _
    have bS2 : W2.heap[sb]? = W1.heap[sb]? := by rw [hX2]; exact Below.heap_setCell _ _ _ _ (by show sb ≠ eb; omega)
    have bS2x := bS2.trans bS1
    have bP2 : W2.heap[pb]? = W1.heap[pb]? := by rw [hX2]; exact Below.heap_setCell _ _ _ _ (by show pb ≠ eb; omega)
    have bP2x := bP2.trans bP1
    have KW2 : Keeps (fun _ => False) w W2 := by rw [hX2]; exact KW1.setCell (.inl (by show w.heap.size ≤ eb; omega)) _
    clear bS2 bP2
    have bS2 := bS2x
    have bP2 := bP2x
    clear bS2x bP2x
    rw [← hX2]
    clear hX2
    clear ce01 ce11 ce21 ce31 ce41 ce51 fe01 fe11 fe21 fe31 fe41 fe51
    refine (K1 pb a3 W2 bP2 (HG.out _ KW2) hp8).mono ?_
    rintro ex W3 ⟨rfl, bP3, kP3⟩
    have bR3 := (kP3.block rb (lt_of_block bR2) (by omega)).trans bR2
    have bE3 := (kP3.block eb (lt_of_block bE2) (by omega)).trans bE2
    have bS3 := (kP3.block sb (lt_of_block bS2) (by omega)).trans bS2
    have KW3 : Keeps (fun _ => False) w W3 := KW2.young kP3 (fun q hq => by omega)
    clear kP3 K1
    have ce03 : W3.cell? ⟨eb, 0, none⟩ = some (.int .i64 (ta : Int)) := by rw [cell_of_block bE3]; rfl
    have ce13 : W3.cell? ⟨eb, 1, none⟩ = some (.int .i64 0) := by rw [cell_of_block bE3]; rfl
    have ce23 : W3.cell? ⟨eb, 2, none⟩ = some (.int .u64 0) := by rw [cell_of_block bE3]; rfl
    have ce33 : W3.cell? ⟨eb, 3, none⟩ = some (.int .u64 0) := by rw [cell_of_block bE3]; rfl
    have ce43 : W3.cell? ⟨eb, 4, none⟩ = some (.bool false) := by rw [cell_of_block bE3]; rfl
    have ce53 : W3.cell? ⟨eb, 5, none⟩ = some (.int .i64 0) := by rw [cell_of_block bE3]; rfl
    have fe03 : W3.frozen? ⟨eb, 0, none⟩ = false := frozen_of_block bE3 _
    have fe13 : W3.frozen? ⟨eb, 1, none⟩ = false := frozen_of_block bE3 _
    have fe23 : W3.frozen? ⟨eb, 2, none⟩ = false := frozen_of_block bE3 _
    have fe33 : W3.frozen? ⟨eb, 3, none⟩ = false := frozen_of_block bE3 _
    have fe43 : W3.frozen? ⟨eb, 4, none⟩ = false := frozen_of_block bE3 _
    have fe53 : W3.frozen? ⟨eb, 5, none⟩ = false := frozen_of_block bE3 _
    cases ok
    · go_wp2_with fail
      obtain ⟨W4, hX4⟩ : ∃ X, X = W3.setCell ⟨eb, 1, none⟩ (.int .i64 kd) := ⟨_, rfl⟩
      have bR4 : W4.heap[rb]? = some (.cells (evV ev0) 44 (0, 0)) := by rw [hX4]; exact (Below.heap_setCell _ _ _ _ (by show rb ≠ eb; omega)).trans bR3
      have bE4 : W4.heap[eb]? = some (.cells #[.int .i64 (ta : Int), .int .i64 kd, .int .u64 0, .int .u64 0, .bool false, .int .i64 0] 44 (0, 0)) := by rw [hX4]; exact block_set bE3 1 _
      have bS4 : W4.heap[sb]? = W3.heap[sb]? := by rw [hX4]; exact Below.heap_setCell _ _ _ _ (by show sb ≠ eb; omega)
      have bS4x := bS4.trans bS3
      have bP4 : W4.heap[pb]? = W3.heap[pb]? := by rw [hX4]; exact Below.heap_setCell _ _ _ _ (by show pb ≠ eb; omega)
      have bP4x := bP4.trans bP3
      have KW4 : Keeps (fun _ => False) w W4 := by rw [hX4]; exact KW3.setCell (.inl (by show w.heap.size ≤ eb; omega)) _
      clear bS4 bP4
      have bS4 := bS4x
      have bP4 := bP4x
      clear bS4x bP4x
      obtain ⟨W5, hX5⟩ : ∃ X, X = W4.setCell ⟨eb, 4, none⟩ (.bool ow) := ⟨_, rfl⟩
      have bR5 : W5.heap[rb]? = some (.cells (evV ev0) 44 (0, 0)) := by rw [hX5]; exact (Below.heap_setCell _ _ _ _ (by show rb ≠ eb; omega)).trans bR4
      have bE5 : W5.heap[eb]? = some (.cells #[.int .i64 (ta : Int), .int .i64 kd, .int .u64 0, .int .u64 0, .bool ow, .int .i64 0] 44 (0, 0)) := by rw [hX5]; exact block_set bE4 4 _
      have bS5 : W5.heap[sb]? = W4.heap[sb]? := by rw [hX5]; exact Below.heap_setCell _ _ _ _ (by show sb ≠ eb; omega)
      have bS5x := bS5.trans bS4
      have bP5 : W5.heap[pb]? = W4.heap[pb]? := by rw [hX5]; exact Below.heap_setCell _ _ _ _ (by show pb ≠ eb; omega)
      have bP5x := bP5.trans bP4
      have KW5 : Keeps (fun _ => False) w W5 := by rw [hX5]; exact KW4.setCell (.inl (by show w.heap.size ≤ eb; omega)) _
      clear bS5 bP5
      have bS5 := bS5x
      have bP5 := bP5x
      clear bS5x bP5x
      rw [← hX4, ← hX5]
      clear hX4 hX5
      clear ce03 ce13 ce23 ce33 ce43 ce53 fe03 fe13 fe23 fe33 fe43 fe53
      first | change ahead _ _ _ _ _ _ _ _ | (refine wp_goto ?_; change ahead _ _ _ _ _ _ _ _)
      refine ahead_go rfl ?_
      have hz : Hid (z = none) := by show z = none; rw [HR.out]; simp []
      go_wp2_with (refine wpList_store_row rfl 44 _ _ rfl rb (evV ev0) rfl rfl 44 _ bR5 (ev_size _) rfl (ev_all _) ?_)
      simp only [jumps]
      refine bodyPost_ret (ev_ret rfl _ _ rb (evV ev0) (setRow_heap _ _ _ _ _ _ bR5) rfl rfl) rfl ?_
      exact ⟨HZR.out hz.out, KW5.row hwr _⟩
    · obtain ⟨q0, q1⟩ := hk12 rfl
      obtain ⟨k, rfl⟩ : ∃ k : Nat, kd = k := ⟨kd.toNat, by omega⟩
      have hk13 : k < 13 := by omega
      have hki : (k : Int) < 13 := by omega
      have hk0 : (0 : Int) ≤ k := by omega
      obtain ⟨W4, hX4⟩ : ∃ X, X = W3.setCell ⟨eb, 1, none⟩ (.int .i64 (k : Int)) := ⟨_, rfl⟩
      have bR4 : W4.heap[rb]? = some (.cells (evV ev0) 44 (0, 0)) := by rw [hX4]; exact (Below.heap_setCell _ _ _ _ (by show rb ≠ eb; omega)).trans bR3
      have bE4 : W4.heap[eb]? = some (.cells #[.int .i64 (ta : Int), .int .i64 (k : Int), .int .u64 0, .int .u64 0, .bool false, .int .i64 0] 44 (0, 0)) := by rw [hX4]; exact block_set bE3 1 _
      have bS4 : W4.heap[sb]? = W3.heap[sb]? := by rw [hX4]; exact Below.heap_setCell _ _ _ _ (by show sb ≠ eb; omega)
      have bS4x := bS4.trans bS3
      have bP4 : W4.heap[pb]? = W3.heap[pb]? := by rw [hX4]; exact Below.heap_setCell _ _ _ _ (by show pb ≠ eb; omega)
      have bP4x := bP4.trans bP3
      have KW4 : Keeps (fun _ => False) w W4 := by rw [hX4]; exact KW3.setCell (.inl (by show w.heap.size ≤ eb; omega)) _
      clear bS4 bP4
      have bS4 := bS4x
      have bP4 := bP4x
      clear bS4x bP4x
      obtain ⟨W5, hX5⟩ : ∃ X, X = W4.setCell ⟨eb, 4, none⟩ (.bool ow) := ⟨_, rfl⟩
      have bR5 : W5.heap[rb]? = some (.cells (evV ev0) 44 (0, 0)) := by rw [hX5]; exact (Below.heap_setCell _ _ _ _ (by show rb ≠ eb; omega)).trans bR4
      have bE5 : W5.heap[eb]? = some (.cells #[.int .i64 (ta : Int), .int .i64 (k : Int), .int .u64 0, .int .u64 0, .bool ow, .int .i64 0] 44 (0, 0)) := by rw [hX5]; exact block_set bE4 4 _
      have bS5 : W5.heap[sb]? = W4.heap[sb]? := by rw [hX5]; exact Below.heap_setCell _ _ _ _ (by show sb ≠ eb; omega)
      have bS5x := bS5.trans bS4
      have bP5 : W5.heap[pb]? = W4.heap[pb]? := by rw [hX5]; exact Below.heap_setCell _ _ _ _ (by show pb ≠ eb; omega)
      have bP5x := bP5.trans bP4
      have KW5 : Keeps (fun _ => False) w W5 := by rw [hX5]; exact KW4.setCell (.inl (by show w.heap.size ≤ eb; omega)) _
      clear bS5 bP5
      have bS5 := bS5x
      have bP5 := bP5x
      clear bS5x bP5x
      have hg3 := HG.out _ KW3
      have cn := hg3.nm k hk13
      have ca := hg3.ad k hk13
      have cw := hg3.wd k hk13
      have cr := hg3.er k hk13
      have he0 : ¬ eb = 0 := by omega
      have h4 : (adB k = false ∧ wdB k = true ∧ erB k = false) ∨ (adB k = true ∧ wdB k = true ∧ erB k = false) ∨ (adB k = false ∧ wdB k = false ∧ erB k = false) ∨ (adB k = false ∧ wdB k = false ∧ erB k = true) := by
        rcases kd12 q0 q1 with h | h | h | h | h | h | h | h | h | h | h | h <;> rw [h] <;> decide
      generalize adB k = ab at *
      generalize wdB k = wb at *
      generalize erB k = xb at *
      generalize shL k = nm at *
      rw [hX4] at hX5
      have HX5 : Hid (W5 = _) := hX5
      clear hX4 hX5 hg3
      rcases h4 with ⟨rfl, rfl, rfl⟩ | ⟨rfl, rfl, rfl⟩ | ⟨rfl, rfl, rfl⟩ | ⟨rfl, rfl, rfl⟩
      · skip
        have hsh : (#[.string ⟨nm.toArray⟩, .bool false, .bool true, .bool false] : Array Value).all (·.oneCell') = true := by simp [Value.oneCell']
        obtain ⟨W6, hX6⟩ : ∃ X, X = W5.setRow sb #[.string ⟨nm.toArray⟩, .bool false, .bool true, .bool false] := ⟨_, rfl⟩
        have bS6 : W6.heap[sb]? = some (.cells #[.string ⟨nm.toArray⟩, .bool false, .bool true, .bool false] 107 (0, 0)) := by rw [hX6]; exact setRow_heap _ _ _ _ _ _ bS5
        have kS : Keeps (fun q => q = sb) W5 W6 := by rw [hX6]; exact ⟨rfl, rfl, rfl, by simp [World.setRow], fun q hq hs => by simp [World.setRow, Array.getElem?_modify, show ¬ sb = q from fun e => hs e.symm]⟩
        have bR6 := (kS.block rb (lt_of_block bR5) (by omega)).trans bR5
        have bE6 := (kS.block eb (lt_of_block bE5) (by omega)).trans bE5
        have bP6 := (kS.block pb (lt_of_block bP5) (by omega)).trans bP5
        have KW6 : Keeps (fun _ => False) w W6 := KW5.young kS (fun q hq => by omega)
        have s1 : W6.cell? ⟨sb, 1, none⟩ = some (.bool false) := by rw [cell_of_block bS6]; rfl
        have s2 : W6.cell? ⟨sb, 2, none⟩ = some (.bool true) := by rw [cell_of_block bS6]; rfl
        have s3 : W6.cell? ⟨sb, 3, none⟩ = some (.bool false) := by rw [cell_of_block bS6]; rfl
        have HX6 : Hid (W6 = _) := hX6
        clear hX6 kS
        go_wp2_with (first | (rw [← HX5.out]; refine wpList_store_row rfl 107 _ _ rfl sb #[.string ⟨nm.toArray⟩, .bool false, .bool true, .bool false] rfl rfl 107 _ bS5 size_sh rfl hsh ?_; rw [← HX6.out]))
        clear HX5 HX6 bS5 bR5 bE5 bP5 KW5 s1 s2 s3 cn ca cw cr hsh
        clear ce03 ce13 ce23 ce33 ce43 ce53 fe03 fe13 fe23 fe33 fe43 fe53
        first | change ahead _ _ _ _ _ _ _ _ | (refine wp_goto ?_; change ahead _ _ _ _ _ _ _ _)
        refine ahead_go rfl ?_
        go_wp2_with fail
        refine (N2 pb b3 W6 bP6 (HG.out _ KW6) hp8).mono ?_
        rintro ex W7 ⟨rfl, bP7, kP7⟩
        have bR7 := (kP7.block rb (lt_of_block bR6) (by omega)).trans bR6
        have bE7 := (kP7.block eb (lt_of_block bE6) (by omega)).trans bE6
        have bS7 := (kP7.block sb (lt_of_block bS6) (by omega)).trans bS6
        have KW7 : Keeps (fun _ => False) w W7 := KW6.young kP7 (fun q hq => by omega)
        clear kP7 N2
        have ce07 : W7.cell? ⟨eb, 0, none⟩ = some (.int .i64 (ta : Int)) := by rw [cell_of_block bE7]; rfl
        have ce17 : W7.cell? ⟨eb, 1, none⟩ = some (.int .i64 (k : Int)) := by rw [cell_of_block bE7]; rfl
        have ce27 : W7.cell? ⟨eb, 2, none⟩ = some (.int .u64 0) := by rw [cell_of_block bE7]; rfl
        have ce37 : W7.cell? ⟨eb, 3, none⟩ = some (.int .u64 0) := by rw [cell_of_block bE7]; rfl
        have ce47 : W7.cell? ⟨eb, 4, none⟩ = some (.bool ow) := by rw [cell_of_block bE7]; rfl
        have ce57 : W7.cell? ⟨eb, 5, none⟩ = some (.int .i64 0) := by rw [cell_of_block bE7]; rfl
        have fe07 : W7.frozen? ⟨eb, 0, none⟩ = false := frozen_of_block bE7 _
        have fe17 : W7.frozen? ⟨eb, 1, none⟩ = false := frozen_of_block bE7 _
        have fe27 : W7.frozen? ⟨eb, 2, none⟩ = false := frozen_of_block bE7 _
        have fe37 : W7.frozen? ⟨eb, 3, none⟩ = false := frozen_of_block bE7 _
        have fe47 : W7.frozen? ⟨eb, 4, none⟩ = false := frozen_of_block bE7 _
        have fe57 : W7.frozen? ⟨eb, 5, none⟩ = false := frozen_of_block bE7 _
        cases nc
        · go_wp2_with fail
          obtain ⟨W7s, hX7s⟩ : ∃ X, X = W7.setCell ⟨eb, 3, none⟩ (.int .u64 (uc : Int)) := ⟨_, rfl⟩
          have bR7s : W7s.heap[rb]? = some (.cells (evV ev0) 44 (0, 0)) := by rw [hX7s]; exact (Below.heap_setCell _ _ _ _ (by show rb ≠ eb; omega)).trans bR7
          have bE7s : W7s.heap[eb]? = some (.cells #[.int .i64 (ta : Int), .int .i64 (k : Int), .int .u64 0, .int .u64 (uc : Int), .bool ow, .int .i64 0] 44 (0, 0)) := by rw [hX7s]; exact block_set bE7 3 _
          have bS7s : W7s.heap[sb]? = W7.heap[sb]? := by rw [hX7s]; exact Below.heap_setCell _ _ _ _ (by show sb ≠ eb; omega)
          have bS7sx := bS7s.trans bS7
          have bP7s : W7s.heap[pb]? = W7.heap[pb]? := by rw [hX7s]; exact Below.heap_setCell _ _ _ _ (by show pb ≠ eb; omega)
          have bP7sx := bP7s.trans bP7
          have KW7s : Keeps (fun _ => False) w W7s := by rw [hX7s]; exact KW7.setCell (.inl (by show w.heap.size ≤ eb; omega)) _
          clear bS7s bP7s
          have bS7s := bS7sx
          have bP7s := bP7sx
          clear bS7sx bP7sx
          rw [← hX7s]
          clear hX7s
          clear ce07 ce17 ce27 ce37 ce47 ce57 fe07 fe17 fe27 fe37 fe47 fe57
          first | change _ ∧ ahead _ _ _ _ _ _ _ _ | (refine wp_goto ?_; change _ ∧ ahead _ _ _ _ _ _ _ _)
          refine ⟨by decide, ahead_go rfl ?_⟩
          have hz : Hid (z = none) := by show z = none; rw [HR.out]; simp []
          go_wp2_with (refine wpList_store_row rfl 44 _ _ rfl rb (evV ev0) rfl rfl 44 _ bR7s (ev_size _) rfl (ev_all _) ?_)
          simp only [jumps]
          refine bodyPost_ret (ev_ret rfl _ _ rb (evV ev0) (setRow_heap _ _ _ _ _ _ bR7s) rfl rfl) rfl ?_
          exact ⟨HZR.out hz.out, KW7s.row hwr _⟩
        · skip
          go_wp2_with fail
          obtain ⟨W7s, hX7s⟩ : ∃ X, X = W7.setCell ⟨eb, 3, none⟩ (.int .u64 (uc : Int)) := ⟨_, rfl⟩
          have bR7s : W7s.heap[rb]? = some (.cells (evV ev0) 44 (0, 0)) := by rw [hX7s]; exact (Below.heap_setCell _ _ _ _ (by show rb ≠ eb; omega)).trans bR7
          have bE7s : W7s.heap[eb]? = some (.cells #[.int .i64 (ta : Int), .int .i64 (k : Int), .int .u64 0, .int .u64 (uc : Int), .bool ow, .int .i64 0] 44 (0, 0)) := by rw [hX7s]; exact block_set bE7 3 _
          have bS7s : W7s.heap[sb]? = W7.heap[sb]? := by rw [hX7s]; exact Below.heap_setCell _ _ _ _ (by show sb ≠ eb; omega)
          have bS7sx := bS7s.trans bS7
          have bP7s : W7s.heap[pb]? = W7.heap[pb]? := by rw [hX7s]; exact Below.heap_setCell _ _ _ _ (by show pb ≠ eb; omega)
          have bP7sx := bP7s.trans bP7
          have KW7s : Keeps (fun _ => False) w W7s := by rw [hX7s]; exact KW7.setCell (.inl (by show w.heap.size ≤ eb; omega)) _
          clear bS7s bP7s
          have bS7s := bS7sx
          have bP7s := bP7sx
          clear bS7sx bP7sx
          rw [← hX7s]
          clear hX7s
          clear ce07 ce17 ce27 ce37 ce47 ce57 fe07 fe17 fe27 fe37 fe47 fe57
          first | change _ ∧ ahead _ _ _ _ _ _ _ _ | (refine wp_goto ?_; change _ ∧ ahead _ _ _ _ _ _ _ _)
          refine ⟨by decide, ahead_go rfl ?_⟩
          have ce07s : W7s.cell? ⟨eb, 0, none⟩ = some (.int .i64 (ta : Int)) := by rw [cell_of_block bE7s]; rfl
          have ce17s : W7s.cell? ⟨eb, 1, none⟩ = some (.int .i64 (k : Int)) := by rw [cell_of_block bE7s]; rfl
          have ce27s : W7s.cell? ⟨eb, 2, none⟩ = some (.int .u64 0) := by rw [cell_of_block bE7s]; rfl
          have ce37s : W7s.cell? ⟨eb, 3, none⟩ = some (.int .u64 (uc : Int)) := by rw [cell_of_block bE7s]; rfl
          have ce47s : W7s.cell? ⟨eb, 4, none⟩ = some (.bool ow) := by rw [cell_of_block bE7s]; rfl
          have ce57s : W7s.cell? ⟨eb, 5, none⟩ = some (.int .i64 0) := by rw [cell_of_block bE7s]; rfl
          have fe07s : W7s.frozen? ⟨eb, 0, none⟩ = false := frozen_of_block bE7s _
          have fe17s : W7s.frozen? ⟨eb, 1, none⟩ = false := frozen_of_block bE7s _
          have fe27s : W7s.frozen? ⟨eb, 2, none⟩ = false := frozen_of_block bE7s _
          have fe37s : W7s.frozen? ⟨eb, 3, none⟩ = false := frozen_of_block bE7s _
          have fe47s : W7s.frozen? ⟨eb, 4, none⟩ = false := frozen_of_block bE7s _
          have fe57s : W7s.frozen? ⟨eb, 5, none⟩ = false := frozen_of_block bE7s _
          have cm : W7s.cell? ⟨pb, 1, none⟩ = some (.bool c3) := by rw [cell_of_block bP7s]; rfl
          cases c3
          · have FM := fun X kx => formed_any ⟨(ta : Int), (k : Int), 0, (uc : Int), ow, 0⟩ X (HG.out X kx)
            go_wp2_with fail
            refine (FM _ KW7s).mono ?_
            rintro ex Wf ⟨rfl, kf⟩
            have bRf := (kf.block rb (lt_of_block bR7s) (fun f => f)).trans bR7s
            have bEf := (kf.block eb (lt_of_block bE7s) (fun f => f)).trans bE7s
            have KWf := KW7s.trans kf
            clear ce07s ce17s ce27s ce37s ce47s ce57s fe07s fe17s fe27s fe37s fe47s fe57s
            have ce0f : Wf.cell? ⟨eb, 0, none⟩ = some (.int .i64 (ta : Int)) := by rw [cell_of_block bEf]; rfl
            have ce1f : Wf.cell? ⟨eb, 1, none⟩ = some (.int .i64 (k : Int)) := by rw [cell_of_block bEf]; rfl
            have ce2f : Wf.cell? ⟨eb, 2, none⟩ = some (.int .u64 0) := by rw [cell_of_block bEf]; rfl
            have ce3f : Wf.cell? ⟨eb, 3, none⟩ = some (.int .u64 (uc : Int)) := by rw [cell_of_block bEf]; rfl
            have ce4f : Wf.cell? ⟨eb, 4, none⟩ = some (.bool ow) := by rw [cell_of_block bEf]; rfl
            have ce5f : Wf.cell? ⟨eb, 5, none⟩ = some (.int .i64 0) := by rw [cell_of_block bEf]; rfl
            have fe0f : Wf.frozen? ⟨eb, 0, none⟩ = false := frozen_of_block bEf _
            have fe1f : Wf.frozen? ⟨eb, 1, none⟩ = false := frozen_of_block bEf _
            have fe2f : Wf.frozen? ⟨eb, 2, none⟩ = false := frozen_of_block bEf _
            have fe3f : Wf.frozen? ⟨eb, 3, none⟩ = false := frozen_of_block bEf _
            have fe4f : Wf.frozen? ⟨eb, 4, none⟩ = false := frozen_of_block bEf _
            have fe5f : Wf.frozen? ⟨eb, 5, none⟩ = false := frozen_of_block bEf _
            clear FM
            cases hfe : formedE ⟨(ta : Int), (k : Int), 0, (uc : Int), ow, 0⟩
            · go_wp2_with fail
              first | change _ ∧ ahead _ _ _ _ _ _ _ _ | (refine wp_goto ?_; change _ ∧ ahead _ _ _ _ _ _ _ _)
              refine ⟨by decide, ahead_go rfl ?_⟩
              have hz : Hid (z = none) := by show z = none; rw [HR.out]; simp [finP, hfe]
              go_wp2_with (refine wpList_store_row rfl 44 _ _ rfl rb (evV ev0) rfl rfl 44 _ bRf (ev_size _) rfl (ev_all _) ?_)
              simp only [jumps]
              refine bodyPost_ret (ev_ret rfl _ _ rb (evV ev0) (setRow_heap _ _ _ _ _ _ bRf) rfl rfl) rfl ?_
              exact ⟨HZR.out hz.out, KWf.row hwr _⟩
            · have hz : Hid (z = some ⟨(ta : Int), (k : Int), 0, (uc : Int), ow, 0⟩) := by show z = some _; rw [HR.out]; simp [finP, hfe]
              go_wp2_with (refine wpList_store_row rfl 44 _ _ rfl rb (evV ⟨(ta : Int), (k : Int), 0, (uc : Int), ow, 0⟩) rfl rfl 44 _ bRf (ev_size _) rfl (ev_all _) ?_)
              simp only [jumps]
              refine bodyPost_ret (ev_ret rfl _ _ rb (evV ⟨(ta : Int), (k : Int), 0, (uc : Int), ow, 0⟩) (setRow_heap _ _ _ _ _ _ bRf) rfl rfl) rfl ?_
              exact ⟨by rw [hz.out]; rfl, KWf.row hwr _⟩
          · go_wp2_with fail
            first | change _ ∧ ahead _ _ _ _ _ _ _ _ | (refine wp_goto ?_; change _ ∧ ahead _ _ _ _ _ _ _ _)
            refine ⟨by decide, ahead_go rfl ?_⟩
            have hz : Hid (z = none) := by show z = none; rw [HR.out]; simp [finP]
            go_wp2_with (refine wpList_store_row rfl 44 _ _ rfl rb (evV ev0) rfl rfl 44 _ bR7s (ev_size _) rfl (ev_all _) ?_)
            simp only [jumps]
            refine bodyPost_ret (ev_ret rfl _ _ rb (evV ev0) (setRow_heap _ _ _ _ _ _ bR7s) rfl rfl) rfl ?_
            exact ⟨HZR.out hz.out, KW7s.row hwr _⟩
      · skip
        have hsh : (#[.string ⟨nm.toArray⟩, .bool true, .bool true, .bool false] : Array Value).all (·.oneCell') = true := by simp [Value.oneCell']
        obtain ⟨W6, hX6⟩ : ∃ X, X = W5.setRow sb #[.string ⟨nm.toArray⟩, .bool true, .bool true, .bool false] := ⟨_, rfl⟩
        have bS6 : W6.heap[sb]? = some (.cells #[.string ⟨nm.toArray⟩, .bool true, .bool true, .bool false] 107 (0, 0)) := by rw [hX6]; exact setRow_heap _ _ _ _ _ _ bS5
        have kS : Keeps (fun q => q = sb) W5 W6 := by rw [hX6]; exact ⟨rfl, rfl, rfl, by simp [World.setRow], fun q hq hs => by simp [World.setRow, Array.getElem?_modify, show ¬ sb = q from fun e => hs e.symm]⟩
        have bR6 := (kS.block rb (lt_of_block bR5) (by omega)).trans bR5
        have bE6 := (kS.block eb (lt_of_block bE5) (by omega)).trans bE5
        have bP6 := (kS.block pb (lt_of_block bP5) (by omega)).trans bP5
        have KW6 : Keeps (fun _ => False) w W6 := KW5.young kS (fun q hq => by omega)
        have s1 : W6.cell? ⟨sb, 1, none⟩ = some (.bool true) := by rw [cell_of_block bS6]; rfl
        have s2 : W6.cell? ⟨sb, 2, none⟩ = some (.bool true) := by rw [cell_of_block bS6]; rfl
        have s3 : W6.cell? ⟨sb, 3, none⟩ = some (.bool false) := by rw [cell_of_block bS6]; rfl
        have HX6 : Hid (W6 = _) := hX6
        clear hX6 kS
        go_wp2_with (first | (rw [← HX5.out]; refine wpList_store_row rfl 107 _ _ rfl sb #[.string ⟨nm.toArray⟩, .bool true, .bool true, .bool false] rfl rfl 107 _ bS5 size_sh rfl hsh ?_; rw [← HX6.out]))
        clear HX5 HX6 bS5 bR5 bE5 bP5 KW5 s1 s2 s3 cn ca cw cr hsh
        clear ce03 ce13 ce23 ce33 ce43 ce53 fe03 fe13 fe23 fe33 fe43 fe53
        first | change ahead _ _ _ _ _ _ _ _ | (refine wp_goto ?_; change ahead _ _ _ _ _ _ _ _)
        refine ahead_go rfl ?_
        go_wp2_with fail
        refine (N2 pb b3 W6 bP6 (HG.out _ KW6) hp8).mono ?_
        rintro ex W7 ⟨rfl, bP7, kP7⟩
        have bR7 := (kP7.block rb (lt_of_block bR6) (by omega)).trans bR6
        have bE7 := (kP7.block eb (lt_of_block bE6) (by omega)).trans bE6
        have bS7 := (kP7.block sb (lt_of_block bS6) (by omega)).trans bS6
        have KW7 : Keeps (fun _ => False) w W7 := KW6.young kP7 (fun q hq => by omega)
        clear kP7 N2
        have ce07 : W7.cell? ⟨eb, 0, none⟩ = some (.int .i64 (ta : Int)) := by rw [cell_of_block bE7]; rfl
        have ce17 : W7.cell? ⟨eb, 1, none⟩ = some (.int .i64 (k : Int)) := by rw [cell_of_block bE7]; rfl
        have ce27 : W7.cell? ⟨eb, 2, none⟩ = some (.int .u64 0) := by rw [cell_of_block bE7]; rfl
        have ce37 : W7.cell? ⟨eb, 3, none⟩ = some (.int .u64 0) := by rw [cell_of_block bE7]; rfl
        have ce47 : W7.cell? ⟨eb, 4, none⟩ = some (.bool ow) := by rw [cell_of_block bE7]; rfl
        have ce57 : W7.cell? ⟨eb, 5, none⟩ = some (.int .i64 0) := by rw [cell_of_block bE7]; rfl
        have fe07 : W7.frozen? ⟨eb, 0, none⟩ = false := frozen_of_block bE7 _
        have fe17 : W7.frozen? ⟨eb, 1, none⟩ = false := frozen_of_block bE7 _
        have fe27 : W7.frozen? ⟨eb, 2, none⟩ = false := frozen_of_block bE7 _
        have fe37 : W7.frozen? ⟨eb, 3, none⟩ = false := frozen_of_block bE7 _
        have fe47 : W7.frozen? ⟨eb, 4, none⟩ = false := frozen_of_block bE7 _
        have fe57 : W7.frozen? ⟨eb, 5, none⟩ = false := frozen_of_block bE7 _
        cases nc
        · go_wp2_with fail
          obtain ⟨W7s, hX7s⟩ : ∃ X, X = W7.setCell ⟨eb, 2, none⟩ (.int .u64 (uc : Int)) := ⟨_, rfl⟩
          have bR7s : W7s.heap[rb]? = some (.cells (evV ev0) 44 (0, 0)) := by rw [hX7s]; exact (Below.heap_setCell _ _ _ _ (by show rb ≠ eb; omega)).trans bR7
          have bE7s : W7s.heap[eb]? = some (.cells #[.int .i64 (ta : Int), .int .i64 (k : Int), .int .u64 (uc : Int), .int .u64 0, .bool ow, .int .i64 0] 44 (0, 0)) := by rw [hX7s]; exact block_set bE7 2 _
          have bS7s : W7s.heap[sb]? = W7.heap[sb]? := by rw [hX7s]; exact Below.heap_setCell _ _ _ _ (by show sb ≠ eb; omega)
          have bS7sx := bS7s.trans bS7
          have bP7s : W7s.heap[pb]? = W7.heap[pb]? := by rw [hX7s]; exact Below.heap_setCell _ _ _ _ (by show pb ≠ eb; omega)
          have bP7sx := bP7s.trans bP7
          have KW7s : Keeps (fun _ => False) w W7s := by rw [hX7s]; exact KW7.setCell (.inl (by show w.heap.size ≤ eb; omega)) _
          clear bS7s bP7s
          have bS7s := bS7sx
          have bP7s := bP7sx
          clear bS7sx bP7sx
          rw [← hX7s]
          clear hX7s
          clear ce07 ce17 ce27 ce37 ce47 ce57 fe07 fe17 fe27 fe37 fe47 fe57
          first | change _ ∧ ahead _ _ _ _ _ _ _ _ | (refine wp_goto ?_; change _ ∧ ahead _ _ _ _ _ _ _ _)
          refine ⟨by decide, ahead_go rfl ?_⟩
          have hz : Hid (z = none) := by show z = none; rw [HR.out]; simp []
          go_wp2_with (refine wpList_store_row rfl 44 _ _ rfl rb (evV ev0) rfl rfl 44 _ bR7s (ev_size _) rfl (ev_all _) ?_)
          simp only [jumps]
          refine bodyPost_ret (ev_ret rfl _ _ rb (evV ev0) (setRow_heap _ _ _ _ _ _ bR7s) rfl rfl) rfl ?_
          exact ⟨HZR.out hz.out, KW7s.row hwr _⟩
        · skip
          go_wp2_with fail
          obtain ⟨W7s, hX7s⟩ : ∃ X, X = W7.setCell ⟨eb, 2, none⟩ (.int .u64 (uc : Int)) := ⟨_, rfl⟩
          have bR7s : W7s.heap[rb]? = some (.cells (evV ev0) 44 (0, 0)) := by rw [hX7s]; exact (Below.heap_setCell _ _ _ _ (by show rb ≠ eb; omega)).trans bR7
          have bE7s : W7s.heap[eb]? = some (.cells #[.int .i64 (ta : Int), .int .i64 (k : Int), .int .u64 (uc : Int), .int .u64 0, .bool ow, .int .i64 0] 44 (0, 0)) := by rw [hX7s]; exact block_set bE7 2 _
          have bS7s : W7s.heap[sb]? = W7.heap[sb]? := by rw [hX7s]; exact Below.heap_setCell _ _ _ _ (by show sb ≠ eb; omega)
          have bS7sx := bS7s.trans bS7
          have bP7s : W7s.heap[pb]? = W7.heap[pb]? := by rw [hX7s]; exact Below.heap_setCell _ _ _ _ (by show pb ≠ eb; omega)
          have bP7sx := bP7s.trans bP7
          have KW7s : Keeps (fun _ => False) w W7s := by rw [hX7s]; exact KW7.setCell (.inl (by show w.heap.size ≤ eb; omega)) _
          clear bS7s bP7s
          have bS7s := bS7sx
          have bP7s := bP7sx
          clear bS7sx bP7sx
          rw [← hX7s]
          clear hX7s
          clear ce07 ce17 ce27 ce37 ce47 ce57 fe07 fe17 fe27 fe37 fe47 fe57
          first | change _ ∧ ahead _ _ _ _ _ _ _ _ | (refine wp_goto ?_; change _ ∧ ahead _ _ _ _ _ _ _ _)
          refine ⟨by decide, ahead_go rfl ?_⟩
          go_wp2_with fail
          refine (N3 pb c3 W7s bP7s (HG.out _ KW7s) hp8).mono ?_
          rintro ex W8 ⟨rfl, bP8, kP8⟩
          have bR8 := (kP8.block rb (lt_of_block bR7s) (by omega)).trans bR7s
          have bE8 := (kP8.block eb (lt_of_block bE7s) (by omega)).trans bE7s
          have bS8 := (kP8.block sb (lt_of_block bS7s) (by omega)).trans bS7s
          have KW8 : Keeps (fun _ => False) w W8 := KW7s.young kP8 (fun q hq => by omega)
          clear kP8 N3
          have ce08 : W8.cell? ⟨eb, 0, none⟩ = some (.int .i64 (ta : Int)) := by rw [cell_of_block bE8]; rfl
          have ce18 : W8.cell? ⟨eb, 1, none⟩ = some (.int .i64 (k : Int)) := by rw [cell_of_block bE8]; rfl
          have ce28 : W8.cell? ⟨eb, 2, none⟩ = some (.int .u64 (uc : Int)) := by rw [cell_of_block bE8]; rfl
          have ce38 : W8.cell? ⟨eb, 3, none⟩ = some (.int .u64 0) := by rw [cell_of_block bE8]; rfl
          have ce48 : W8.cell? ⟨eb, 4, none⟩ = some (.bool ow) := by rw [cell_of_block bE8]; rfl
          have ce58 : W8.cell? ⟨eb, 5, none⟩ = some (.int .i64 0) := by rw [cell_of_block bE8]; rfl
          have fe08 : W8.frozen? ⟨eb, 0, none⟩ = false := frozen_of_block bE8 _
          have fe18 : W8.frozen? ⟨eb, 1, none⟩ = false := frozen_of_block bE8 _
          have fe28 : W8.frozen? ⟨eb, 2, none⟩ = false := frozen_of_block bE8 _
          have fe38 : W8.frozen? ⟨eb, 3, none⟩ = false := frozen_of_block bE8 _
          have fe48 : W8.frozen? ⟨eb, 4, none⟩ = false := frozen_of_block bE8 _
          have fe58 : W8.frozen? ⟨eb, 5, none⟩ = false := frozen_of_block bE8 _
          cases nd
          · go_wp2_with fail
            obtain ⟨W8s, hX8s⟩ : ∃ X, X = W8.setCell ⟨eb, 3, none⟩ (.int .u64 (ud : Int)) := ⟨_, rfl⟩
            have bR8s : W8s.heap[rb]? = some (.cells (evV ev0) 44 (0, 0)) := by rw [hX8s]; exact (Below.heap_setCell _ _ _ _ (by show rb ≠ eb; omega)).trans bR8
            have bE8s : W8s.heap[eb]? = some (.cells #[.int .i64 (ta : Int), .int .i64 (k : Int), .int .u64 (uc : Int), .int .u64 (ud : Int), .bool ow, .int .i64 0] 44 (0, 0)) := by rw [hX8s]; exact block_set bE8 3 _
            have bS8s : W8s.heap[sb]? = W8.heap[sb]? := by rw [hX8s]; exact Below.heap_setCell _ _ _ _ (by show sb ≠ eb; omega)
            have bS8sx := bS8s.trans bS8
            have bP8s : W8s.heap[pb]? = W8.heap[pb]? := by rw [hX8s]; exact Below.heap_setCell _ _ _ _ (by show pb ≠ eb; omega)
            have bP8sx := bP8s.trans bP8
            have KW8s : Keeps (fun _ => False) w W8s := by rw [hX8s]; exact KW8.setCell (.inl (by show w.heap.size ≤ eb; omega)) _
            clear bS8s bP8s
            have bS8s := bS8sx
            have bP8s := bP8sx
            clear bS8sx bP8sx
            rw [← hX8s]
            clear hX8s
            clear ce08 ce18 ce28 ce38 ce48 ce58 fe08 fe18 fe28 fe38 fe48 fe58
            first | change _ ∧ ahead _ _ _ _ _ _ _ _ | (refine wp_goto ?_; change _ ∧ ahead _ _ _ _ _ _ _ _)
            refine ⟨by decide, ahead_go rfl ?_⟩
            have hz : Hid (z = none) := by show z = none; rw [HR.out]; simp []
            go_wp2_with (refine wpList_store_row rfl 44 _ _ rfl rb (evV ev0) rfl rfl 44 _ bR8s (ev_size _) rfl (ev_all _) ?_)
            simp only [jumps]
            refine bodyPost_ret (ev_ret rfl _ _ rb (evV ev0) (setRow_heap _ _ _ _ _ _ bR8s) rfl rfl) rfl ?_
            exact ⟨HZR.out hz.out, KW8s.row hwr _⟩
          · skip
            go_wp2_with fail
            obtain ⟨W8s, hX8s⟩ : ∃ X, X = W8.setCell ⟨eb, 3, none⟩ (.int .u64 (ud : Int)) := ⟨_, rfl⟩
            have bR8s : W8s.heap[rb]? = some (.cells (evV ev0) 44 (0, 0)) := by rw [hX8s]; exact (Below.heap_setCell _ _ _ _ (by show rb ≠ eb; omega)).trans bR8
            have bE8s : W8s.heap[eb]? = some (.cells #[.int .i64 (ta : Int), .int .i64 (k : Int), .int .u64 (uc : Int), .int .u64 (ud : Int), .bool ow, .int .i64 0] 44 (0, 0)) := by rw [hX8s]; exact block_set bE8 3 _
            have bS8s : W8s.heap[sb]? = W8.heap[sb]? := by rw [hX8s]; exact Below.heap_setCell _ _ _ _ (by show sb ≠ eb; omega)
            have bS8sx := bS8s.trans bS8
            have bP8s : W8s.heap[pb]? = W8.heap[pb]? := by rw [hX8s]; exact Below.heap_setCell _ _ _ _ (by show pb ≠ eb; omega)
            have bP8sx := bP8s.trans bP8
            have KW8s : Keeps (fun _ => False) w W8s := by rw [hX8s]; exact KW8.setCell (.inl (by show w.heap.size ≤ eb; omega)) _
            clear bS8s bP8s
            have bS8s := bS8sx
            have bP8s := bP8sx
            clear bS8sx bP8sx
            rw [← hX8s]
            clear hX8s
            clear ce08 ce18 ce28 ce38 ce48 ce58 fe08 fe18 fe28 fe38 fe48 fe58
            first | change _ ∧ ahead _ _ _ _ _ _ _ _ | (refine wp_goto ?_; change _ ∧ ahead _ _ _ _ _ _ _ _)
            refine ⟨by decide, ahead_go rfl ?_⟩
            have ce08s : W8s.cell? ⟨eb, 0, none⟩ = some (.int .i64 (ta : Int)) := by rw [cell_of_block bE8s]; rfl
            have ce18s : W8s.cell? ⟨eb, 1, none⟩ = some (.int .i64 (k : Int)) := by rw [cell_of_block bE8s]; rfl
            have ce28s : W8s.cell? ⟨eb, 2, none⟩ = some (.int .u64 (uc : Int)) := by rw [cell_of_block bE8s]; rfl
            have ce38s : W8s.cell? ⟨eb, 3, none⟩ = some (.int .u64 (ud : Int)) := by rw [cell_of_block bE8s]; rfl
            have ce48s : W8s.cell? ⟨eb, 4, none⟩ = some (.bool ow) := by rw [cell_of_block bE8s]; rfl
            have ce58s : W8s.cell? ⟨eb, 5, none⟩ = some (.int .i64 0) := by rw [cell_of_block bE8s]; rfl
            have fe08s : W8s.frozen? ⟨eb, 0, none⟩ = false := frozen_of_block bE8s _
            have fe18s : W8s.frozen? ⟨eb, 1, none⟩ = false := frozen_of_block bE8s _
            have fe28s : W8s.frozen? ⟨eb, 2, none⟩ = false := frozen_of_block bE8s _
            have fe38s : W8s.frozen? ⟨eb, 3, none⟩ = false := frozen_of_block bE8s _
            have fe48s : W8s.frozen? ⟨eb, 4, none⟩ = false := frozen_of_block bE8s _
            have fe58s : W8s.frozen? ⟨eb, 5, none⟩ = false := frozen_of_block bE8s _
            have cm : W8s.cell? ⟨pb, 1, none⟩ = some (.bool d3) := by rw [cell_of_block bP8s]; rfl
            cases d3
            · have FM := fun X kx => formed_any ⟨(ta : Int), (k : Int), (uc : Int), (ud : Int), ow, 0⟩ X (HG.out X kx)
              go_wp2_with fail
              refine (FM _ KW8s).mono ?_
              rintro ex Wf ⟨rfl, kf⟩
              have bRf := (kf.block rb (lt_of_block bR8s) (fun f => f)).trans bR8s
              have bEf := (kf.block eb (lt_of_block bE8s) (fun f => f)).trans bE8s
              have KWf := KW8s.trans kf
              clear ce08s ce18s ce28s ce38s ce48s ce58s fe08s fe18s fe28s fe38s fe48s fe58s
              have ce0f : Wf.cell? ⟨eb, 0, none⟩ = some (.int .i64 (ta : Int)) := by rw [cell_of_block bEf]; rfl
              have ce1f : Wf.cell? ⟨eb, 1, none⟩ = some (.int .i64 (k : Int)) := by rw [cell_of_block bEf]; rfl
              have ce2f : Wf.cell? ⟨eb, 2, none⟩ = some (.int .u64 (uc : Int)) := by rw [cell_of_block bEf]; rfl
              have ce3f : Wf.cell? ⟨eb, 3, none⟩ = some (.int .u64 (ud : Int)) := by rw [cell_of_block bEf]; rfl
              have ce4f : Wf.cell? ⟨eb, 4, none⟩ = some (.bool ow) := by rw [cell_of_block bEf]; rfl
              have ce5f : Wf.cell? ⟨eb, 5, none⟩ = some (.int .i64 0) := by rw [cell_of_block bEf]; rfl
              have fe0f : Wf.frozen? ⟨eb, 0, none⟩ = false := frozen_of_block bEf _
              have fe1f : Wf.frozen? ⟨eb, 1, none⟩ = false := frozen_of_block bEf _
              have fe2f : Wf.frozen? ⟨eb, 2, none⟩ = false := frozen_of_block bEf _
              have fe3f : Wf.frozen? ⟨eb, 3, none⟩ = false := frozen_of_block bEf _
              have fe4f : Wf.frozen? ⟨eb, 4, none⟩ = false := frozen_of_block bEf _
              have fe5f : Wf.frozen? ⟨eb, 5, none⟩ = false := frozen_of_block bEf _
              clear FM
              cases hfe : formedE ⟨(ta : Int), (k : Int), (uc : Int), (ud : Int), ow, 0⟩
              · go_wp2_with fail
                first | change _ ∧ ahead _ _ _ _ _ _ _ _ | (refine wp_goto ?_; change _ ∧ ahead _ _ _ _ _ _ _ _)
                refine ⟨by decide, ahead_go rfl ?_⟩
                have hz : Hid (z = none) := by show z = none; rw [HR.out]; simp [finP, hfe]
                go_wp2_with (refine wpList_store_row rfl 44 _ _ rfl rb (evV ev0) rfl rfl 44 _ bRf (ev_size _) rfl (ev_all _) ?_)
                simp only [jumps]
                refine bodyPost_ret (ev_ret rfl _ _ rb (evV ev0) (setRow_heap _ _ _ _ _ _ bRf) rfl rfl) rfl ?_
                exact ⟨HZR.out hz.out, KWf.row hwr _⟩
              · have hz : Hid (z = some ⟨(ta : Int), (k : Int), (uc : Int), (ud : Int), ow, 0⟩) := by show z = some _; rw [HR.out]; simp [finP, hfe]
                go_wp2_with (refine wpList_store_row rfl 44 _ _ rfl rb (evV ⟨(ta : Int), (k : Int), (uc : Int), (ud : Int), ow, 0⟩) rfl rfl 44 _ bRf (ev_size _) rfl (ev_all _) ?_)
                simp only [jumps]
                refine bodyPost_ret (ev_ret rfl _ _ rb (evV ⟨(ta : Int), (k : Int), (uc : Int), (ud : Int), ow, 0⟩) (setRow_heap _ _ _ _ _ _ bRf) rfl rfl) rfl ?_
                exact ⟨by rw [hz.out]; rfl, KWf.row hwr _⟩
            · go_wp2_with fail
              first | change _ ∧ ahead _ _ _ _ _ _ _ _ | (refine wp_goto ?_; change _ ∧ ahead _ _ _ _ _ _ _ _)
              refine ⟨by decide, ahead_go rfl ?_⟩
              have hz : Hid (z = none) := by show z = none; rw [HR.out]; simp [finP]
              go_wp2_with (refine wpList_store_row rfl 44 _ _ rfl rb (evV ev0) rfl rfl 44 _ bR8s (ev_size _) rfl (ev_all _) ?_)
              simp only [jumps]
              refine bodyPost_ret (ev_ret rfl _ _ rb (evV ev0) (setRow_heap _ _ _ _ _ _ bR8s) rfl rfl) rfl ?_
              exact ⟨HZR.out hz.out, KW8s.row hwr _⟩
      · skip
        have hsh : (#[.string ⟨nm.toArray⟩, .bool false, .bool false, .bool false] : Array Value).all (·.oneCell') = true := by simp [Value.oneCell']
        obtain ⟨W6, hX6⟩ : ∃ X, X = W5.setRow sb #[.string ⟨nm.toArray⟩, .bool false, .bool false, .bool false] := ⟨_, rfl⟩
        have bS6 : W6.heap[sb]? = some (.cells #[.string ⟨nm.toArray⟩, .bool false, .bool false, .bool false] 107 (0, 0)) := by rw [hX6]; exact setRow_heap _ _ _ _ _ _ bS5
        have kS : Keeps (fun q => q = sb) W5 W6 := by rw [hX6]; exact ⟨rfl, rfl, rfl, by simp [World.setRow], fun q hq hs => by simp [World.setRow, Array.getElem?_modify, show ¬ sb = q from fun e => hs e.symm]⟩
        have bR6 := (kS.block rb (lt_of_block bR5) (by omega)).trans bR5
        have bE6 := (kS.block eb (lt_of_block bE5) (by omega)).trans bE5
        have bP6 := (kS.block pb (lt_of_block bP5) (by omega)).trans bP5
        have KW6 : Keeps (fun _ => False) w W6 := KW5.young kS (fun q hq => by omega)
        have s1 : W6.cell? ⟨sb, 1, none⟩ = some (.bool false) := by rw [cell_of_block bS6]; rfl
        have s2 : W6.cell? ⟨sb, 2, none⟩ = some (.bool false) := by rw [cell_of_block bS6]; rfl
        have s3 : W6.cell? ⟨sb, 3, none⟩ = some (.bool false) := by rw [cell_of_block bS6]; rfl
        have HX6 : Hid (W6 = _) := hX6
        clear hX6 kS
        go_wp2_with (first | (rw [← HX5.out]; refine wpList_store_row rfl 107 _ _ rfl sb #[.string ⟨nm.toArray⟩, .bool false, .bool false, .bool false] rfl rfl 107 _ bS5 size_sh rfl hsh ?_; rw [← HX6.out]))
        clear HX5 HX6 bS5 bR5 bE5 bP5 KW5 s1 s2 s3 cn ca cw cr hsh
        clear ce03 ce13 ce23 ce33 ce43 ce53 fe03 fe13 fe23 fe33 fe43 fe53
        first | change ahead _ _ _ _ _ _ _ _ | (refine wp_goto ?_; change ahead _ _ _ _ _ _ _ _)
        refine ahead_go rfl ?_
        have ce06 : W6.cell? ⟨eb, 0, none⟩ = some (.int .i64 (ta : Int)) := by rw [cell_of_block bE6]; rfl
        have ce16 : W6.cell? ⟨eb, 1, none⟩ = some (.int .i64 (k : Int)) := by rw [cell_of_block bE6]; rfl
        have ce26 : W6.cell? ⟨eb, 2, none⟩ = some (.int .u64 0) := by rw [cell_of_block bE6]; rfl
        have ce36 : W6.cell? ⟨eb, 3, none⟩ = some (.int .u64 0) := by rw [cell_of_block bE6]; rfl
        have ce46 : W6.cell? ⟨eb, 4, none⟩ = some (.bool ow) := by rw [cell_of_block bE6]; rfl
        have ce56 : W6.cell? ⟨eb, 5, none⟩ = some (.int .i64 0) := by rw [cell_of_block bE6]; rfl
        have fe06 : W6.frozen? ⟨eb, 0, none⟩ = false := frozen_of_block bE6 _
        have fe16 : W6.frozen? ⟨eb, 1, none⟩ = false := frozen_of_block bE6 _
        have fe26 : W6.frozen? ⟨eb, 2, none⟩ = false := frozen_of_block bE6 _
        have fe36 : W6.frozen? ⟨eb, 3, none⟩ = false := frozen_of_block bE6 _
        have fe46 : W6.frozen? ⟨eb, 4, none⟩ = false := frozen_of_block bE6 _
        have fe56 : W6.frozen? ⟨eb, 5, none⟩ = false := frozen_of_block bE6 _
        have cm : W6.cell? ⟨pb, 1, none⟩ = some (.bool b3) := by rw [cell_of_block bP6]; rfl
        cases b3
        · have FM := fun X kx => formed_any ⟨(ta : Int), (k : Int), 0, 0, ow, 0⟩ X (HG.out X kx)
          go_wp2_with fail
          refine (FM _ KW6).mono ?_
          rintro ex Wf ⟨rfl, kf⟩
          have bRf := (kf.block rb (lt_of_block bR6) (fun f => f)).trans bR6
          have bEf := (kf.block eb (lt_of_block bE6) (fun f => f)).trans bE6
          have KWf := KW6.trans kf
          clear ce06 ce16 ce26 ce36 ce46 ce56 fe06 fe16 fe26 fe36 fe46 fe56
          have ce0f : Wf.cell? ⟨eb, 0, none⟩ = some (.int .i64 (ta : Int)) := by rw [cell_of_block bEf]; rfl
          have ce1f : Wf.cell? ⟨eb, 1, none⟩ = some (.int .i64 (k : Int)) := by rw [cell_of_block bEf]; rfl
          have ce2f : Wf.cell? ⟨eb, 2, none⟩ = some (.int .u64 0) := by rw [cell_of_block bEf]; rfl
          have ce3f : Wf.cell? ⟨eb, 3, none⟩ = some (.int .u64 0) := by rw [cell_of_block bEf]; rfl
          have ce4f : Wf.cell? ⟨eb, 4, none⟩ = some (.bool ow) := by rw [cell_of_block bEf]; rfl
          have ce5f : Wf.cell? ⟨eb, 5, none⟩ = some (.int .i64 0) := by rw [cell_of_block bEf]; rfl
          have fe0f : Wf.frozen? ⟨eb, 0, none⟩ = false := frozen_of_block bEf _
          have fe1f : Wf.frozen? ⟨eb, 1, none⟩ = false := frozen_of_block bEf _
          have fe2f : Wf.frozen? ⟨eb, 2, none⟩ = false := frozen_of_block bEf _
          have fe3f : Wf.frozen? ⟨eb, 3, none⟩ = false := frozen_of_block bEf _
          have fe4f : Wf.frozen? ⟨eb, 4, none⟩ = false := frozen_of_block bEf _
          have fe5f : Wf.frozen? ⟨eb, 5, none⟩ = false := frozen_of_block bEf _
          clear FM
          cases hfe : formedE ⟨(ta : Int), (k : Int), 0, 0, ow, 0⟩
          · go_wp2_with fail
            first | change _ ∧ ahead _ _ _ _ _ _ _ _ | (refine wp_goto ?_; change _ ∧ ahead _ _ _ _ _ _ _ _)
            refine ⟨by decide, ahead_go rfl ?_⟩
            have hz : Hid (z = none) := by show z = none; rw [HR.out]; simp [finP, hfe]
            go_wp2_with (refine wpList_store_row rfl 44 _ _ rfl rb (evV ev0) rfl rfl 44 _ bRf (ev_size _) rfl (ev_all _) ?_)
            simp only [jumps]
            refine bodyPost_ret (ev_ret rfl _ _ rb (evV ev0) (setRow_heap _ _ _ _ _ _ bRf) rfl rfl) rfl ?_
            exact ⟨HZR.out hz.out, KWf.row hwr _⟩
          · have hz : Hid (z = some ⟨(ta : Int), (k : Int), 0, 0, ow, 0⟩) := by show z = some _; rw [HR.out]; simp [finP, hfe]
            go_wp2_with (refine wpList_store_row rfl 44 _ _ rfl rb (evV ⟨(ta : Int), (k : Int), 0, 0, ow, 0⟩) rfl rfl 44 _ bRf (ev_size _) rfl (ev_all _) ?_)
            simp only [jumps]
            refine bodyPost_ret (ev_ret rfl _ _ rb (evV ⟨(ta : Int), (k : Int), 0, 0, ow, 0⟩) (setRow_heap _ _ _ _ _ _ bRf) rfl rfl) rfl ?_
            exact ⟨by rw [hz.out]; rfl, KWf.row hwr _⟩
        · go_wp2_with fail
          first | change _ ∧ ahead _ _ _ _ _ _ _ _ | (refine wp_goto ?_; change _ ∧ ahead _ _ _ _ _ _ _ _)
          refine ⟨by decide, ahead_go rfl ?_⟩
          have hz : Hid (z = none) := by show z = none; rw [HR.out]; simp [finP]
          go_wp2_with (refine wpList_store_row rfl 44 _ _ rfl rb (evV ev0) rfl rfl 44 _ bR6 (ev_size _) rfl (ev_all _) ?_)
          simp only [jumps]
          refine bodyPost_ret (ev_ret rfl _ _ rb (evV ev0) (setRow_heap _ _ _ _ _ _ bR6) rfl rfl) rfl ?_
          exact ⟨HZR.out hz.out, KW6.row hwr _⟩
      · skip
        have hsh : (#[.string ⟨nm.toArray⟩, .bool false, .bool false, .bool true] : Array Value).all (·.oneCell') = true := by simp [Value.oneCell']
        obtain ⟨W6, hX6⟩ : ∃ X, X = W5.setRow sb #[.string ⟨nm.toArray⟩, .bool false, .bool false, .bool true] := ⟨_, rfl⟩
        have bS6 : W6.heap[sb]? = some (.cells #[.string ⟨nm.toArray⟩, .bool false, .bool false, .bool true] 107 (0, 0)) := by rw [hX6]; exact setRow_heap _ _ _ _ _ _ bS5
        have kS : Keeps (fun q => q = sb) W5 W6 := by rw [hX6]; exact ⟨rfl, rfl, rfl, by simp [World.setRow], fun q hq hs => by simp [World.setRow, Array.getElem?_modify, show ¬ sb = q from fun e => hs e.symm]⟩
        have bR6 := (kS.block rb (lt_of_block bR5) (by omega)).trans bR5
        have bE6 := (kS.block eb (lt_of_block bE5) (by omega)).trans bE5
        have bP6 := (kS.block pb (lt_of_block bP5) (by omega)).trans bP5
        have KW6 : Keeps (fun _ => False) w W6 := KW5.young kS (fun q hq => by omega)
        have s1 : W6.cell? ⟨sb, 1, none⟩ = some (.bool false) := by rw [cell_of_block bS6]; rfl
        have s2 : W6.cell? ⟨sb, 2, none⟩ = some (.bool false) := by rw [cell_of_block bS6]; rfl
        have s3 : W6.cell? ⟨sb, 3, none⟩ = some (.bool true) := by rw [cell_of_block bS6]; rfl
        have HX6 : Hid (W6 = _) := hX6
        clear hX6 kS
        go_wp2_with (first | (rw [← HX5.out]; refine wpList_store_row rfl 107 _ _ rfl sb #[.string ⟨nm.toArray⟩, .bool false, .bool false, .bool true] rfl rfl 107 _ bS5 size_sh rfl hsh ?_; rw [← HX6.out]))
        clear HX5 HX6 bS5 bR5 bE5 bP5 KW5 s1 s2 s3 cn ca cw cr hsh
        clear ce03 ce13 ce23 ce33 ce43 ce53 fe03 fe13 fe23 fe33 fe43 fe53
        first | change ahead _ _ _ _ _ _ _ _ | (refine wp_goto ?_; change ahead _ _ _ _ _ _ _ _)
        refine ahead_go rfl ?_
        go_wp2_with fail
        refine (N2e pb b3 W6 bP6 (HG.out _ KW6) hp8).mono ?_
        rintro ex W7 ⟨rfl, bP7, kP7⟩
        have bR7 := (kP7.block rb (lt_of_block bR6) (by omega)).trans bR6
        have bE7 := (kP7.block eb (lt_of_block bE6) (by omega)).trans bE6
        have bS7 := (kP7.block sb (lt_of_block bS6) (by omega)).trans bS6
        have KW7 : Keeps (fun _ => False) w W7 := KW6.young kP7 (fun q hq => by omega)
        clear kP7 N2e
        have ce07 : W7.cell? ⟨eb, 0, none⟩ = some (.int .i64 (ta : Int)) := by rw [cell_of_block bE7]; rfl
        have ce17 : W7.cell? ⟨eb, 1, none⟩ = some (.int .i64 (k : Int)) := by rw [cell_of_block bE7]; rfl
        have ce27 : W7.cell? ⟨eb, 2, none⟩ = some (.int .u64 0) := by rw [cell_of_block bE7]; rfl
        have ce37 : W7.cell? ⟨eb, 3, none⟩ = some (.int .u64 0) := by rw [cell_of_block bE7]; rfl
        have ce47 : W7.cell? ⟨eb, 4, none⟩ = some (.bool ow) := by rw [cell_of_block bE7]; rfl
        have ce57 : W7.cell? ⟨eb, 5, none⟩ = some (.int .i64 0) := by rw [cell_of_block bE7]; rfl
        have fe07 : W7.frozen? ⟨eb, 0, none⟩ = false := frozen_of_block bE7 _
        have fe17 : W7.frozen? ⟨eb, 1, none⟩ = false := frozen_of_block bE7 _
        have fe27 : W7.frozen? ⟨eb, 2, none⟩ = false := frozen_of_block bE7 _
        have fe37 : W7.frozen? ⟨eb, 3, none⟩ = false := frozen_of_block bE7 _
        have fe47 : W7.frozen? ⟨eb, 4, none⟩ = false := frozen_of_block bE7 _
        have fe57 : W7.frozen? ⟨eb, 5, none⟩ = false := frozen_of_block bE7 _
        cases nc6
        · go_wp2_with fail
          first | change _ ∧ ahead _ _ _ _ _ _ _ _ | (refine wp_goto ?_; change _ ∧ ahead _ _ _ _ _ _ _ _)
          refine ⟨by decide, ahead_go rfl ?_⟩
          have hz : Hid (z = none) := by show z = none; rw [HR.out]; simp []
          go_wp2_with (refine wpList_store_row rfl 44 _ _ rfl rb (evV ev0) rfl rfl 44 _ bR7 (ev_size _) rfl (ev_all _) ?_)
          simp only [jumps]
          refine bodyPost_ret (ev_ret rfl _ _ rb (evV ev0) (setRow_heap _ _ _ _ _ _ bR7) rfl rfl) rfl ?_
          exact ⟨HZR.out hz.out, KW7.row hwr _⟩
        · skip
          have huc := hn6 rfl
          have huc2 : (uc : Int) ≤ 6 := by omega
          go_wp2_with fail
          obtain ⟨W7s, hX7s⟩ : ∃ X, X = W7.setCell ⟨eb, 5, none⟩ (.int .i64 (uc : Int)) := ⟨_, rfl⟩
          have bR7s : W7s.heap[rb]? = some (.cells (evV ev0) 44 (0, 0)) := by rw [hX7s]; exact (Below.heap_setCell _ _ _ _ (by show rb ≠ eb; omega)).trans bR7
          have bE7s : W7s.heap[eb]? = some (.cells #[.int .i64 (ta : Int), .int .i64 (k : Int), .int .u64 0, .int .u64 0, .bool ow, .int .i64 (uc : Int)] 44 (0, 0)) := by rw [hX7s]; exact block_set bE7 5 _
          have bS7s : W7s.heap[sb]? = W7.heap[sb]? := by rw [hX7s]; exact Below.heap_setCell _ _ _ _ (by show sb ≠ eb; omega)
          have bS7sx := bS7s.trans bS7
          have bP7s : W7s.heap[pb]? = W7.heap[pb]? := by rw [hX7s]; exact Below.heap_setCell _ _ _ _ (by show pb ≠ eb; omega)
          have bP7sx := bP7s.trans bP7
          have KW7s : Keeps (fun _ => False) w W7s := by rw [hX7s]; exact KW7.setCell (.inl (by show w.heap.size ≤ eb; omega)) _
          clear bS7s bP7s
          have bS7s := bS7sx
          have bP7s := bP7sx
          clear bS7sx bP7sx
          rw [← hX7s]
          clear hX7s
          clear ce07 ce17 ce27 ce37 ce47 ce57 fe07 fe17 fe27 fe37 fe47 fe57
          first | change _ ∧ ahead _ _ _ _ _ _ _ _ | (refine wp_goto ?_; change _ ∧ ahead _ _ _ _ _ _ _ _)
          refine ⟨by decide, ahead_go rfl ?_⟩
          have ce07s : W7s.cell? ⟨eb, 0, none⟩ = some (.int .i64 (ta : Int)) := by rw [cell_of_block bE7s]; rfl
          have ce17s : W7s.cell? ⟨eb, 1, none⟩ = some (.int .i64 (k : Int)) := by rw [cell_of_block bE7s]; rfl
          have ce27s : W7s.cell? ⟨eb, 2, none⟩ = some (.int .u64 0) := by rw [cell_of_block bE7s]; rfl
          have ce37s : W7s.cell? ⟨eb, 3, none⟩ = some (.int .u64 0) := by rw [cell_of_block bE7s]; rfl
          have ce47s : W7s.cell? ⟨eb, 4, none⟩ = some (.bool ow) := by rw [cell_of_block bE7s]; rfl
          have ce57s : W7s.cell? ⟨eb, 5, none⟩ = some (.int .i64 (uc : Int)) := by rw [cell_of_block bE7s]; rfl
          have fe07s : W7s.frozen? ⟨eb, 0, none⟩ = false := frozen_of_block bE7s _
          have fe17s : W7s.frozen? ⟨eb, 1, none⟩ = false := frozen_of_block bE7s _
          have fe27s : W7s.frozen? ⟨eb, 2, none⟩ = false := frozen_of_block bE7s _
          have fe37s : W7s.frozen? ⟨eb, 3, none⟩ = false := frozen_of_block bE7s _
          have fe47s : W7s.frozen? ⟨eb, 4, none⟩ = false := frozen_of_block bE7s _
          have fe57s : W7s.frozen? ⟨eb, 5, none⟩ = false := frozen_of_block bE7s _
          have cm : W7s.cell? ⟨pb, 1, none⟩ = some (.bool c3) := by rw [cell_of_block bP7s]; rfl
          cases c3
          · have FM := fun X kx => formed_any ⟨(ta : Int), (k : Int), 0, 0, ow, (uc : Int)⟩ X (HG.out X kx)
            go_wp2_with fail
            refine (FM _ KW7s).mono ?_
            rintro ex Wf ⟨rfl, kf⟩
            have bRf := (kf.block rb (lt_of_block bR7s) (fun f => f)).trans bR7s
            have bEf := (kf.block eb (lt_of_block bE7s) (fun f => f)).trans bE7s
            have KWf := KW7s.trans kf
            clear ce07s ce17s ce27s ce37s ce47s ce57s fe07s fe17s fe27s fe37s fe47s fe57s
            have ce0f : Wf.cell? ⟨eb, 0, none⟩ = some (.int .i64 (ta : Int)) := by rw [cell_of_block bEf]; rfl
            have ce1f : Wf.cell? ⟨eb, 1, none⟩ = some (.int .i64 (k : Int)) := by rw [cell_of_block bEf]; rfl
            have ce2f : Wf.cell? ⟨eb, 2, none⟩ = some (.int .u64 0) := by rw [cell_of_block bEf]; rfl
            have ce3f : Wf.cell? ⟨eb, 3, none⟩ = some (.int .u64 0) := by rw [cell_of_block bEf]; rfl
            have ce4f : Wf.cell? ⟨eb, 4, none⟩ = some (.bool ow) := by rw [cell_of_block bEf]; rfl
            have ce5f : Wf.cell? ⟨eb, 5, none⟩ = some (.int .i64 (uc : Int)) := by rw [cell_of_block bEf]; rfl
            have fe0f : Wf.frozen? ⟨eb, 0, none⟩ = false := frozen_of_block bEf _
            have fe1f : Wf.frozen? ⟨eb, 1, none⟩ = false := frozen_of_block bEf _
            have fe2f : Wf.frozen? ⟨eb, 2, none⟩ = false := frozen_of_block bEf _
            have fe3f : Wf.frozen? ⟨eb, 3, none⟩ = false := frozen_of_block bEf _
            have fe4f : Wf.frozen? ⟨eb, 4, none⟩ = false := frozen_of_block bEf _
            have fe5f : Wf.frozen? ⟨eb, 5, none⟩ = false := frozen_of_block bEf _
            clear FM
            cases hfe : formedE ⟨(ta : Int), (k : Int), 0, 0, ow, (uc : Int)⟩
            · go_wp2_with fail
              first | change _ ∧ ahead _ _ _ _ _ _ _ _ | (refine wp_goto ?_; change _ ∧ ahead _ _ _ _ _ _ _ _)
              refine ⟨by decide, ahead_go rfl ?_⟩
              have hz : Hid (z = none) := by show z = none; rw [HR.out]; simp [finP, hfe]
              go_wp2_with (refine wpList_store_row rfl 44 _ _ rfl rb (evV ev0) rfl rfl 44 _ bRf (ev_size _) rfl (ev_all _) ?_)
              simp only [jumps]
              refine bodyPost_ret (ev_ret rfl _ _ rb (evV ev0) (setRow_heap _ _ _ _ _ _ bRf) rfl rfl) rfl ?_
              exact ⟨HZR.out hz.out, KWf.row hwr _⟩
            · have hz : Hid (z = some ⟨(ta : Int), (k : Int), 0, 0, ow, (uc : Int)⟩) := by show z = some _; rw [HR.out]; simp [finP, hfe]
              go_wp2_with (refine wpList_store_row rfl 44 _ _ rfl rb (evV ⟨(ta : Int), (k : Int), 0, 0, ow, (uc : Int)⟩) rfl rfl 44 _ bRf (ev_size _) rfl (ev_all _) ?_)
              simp only [jumps]
              refine bodyPost_ret (ev_ret rfl _ _ rb (evV ⟨(ta : Int), (k : Int), 0, 0, ow, (uc : Int)⟩) (setRow_heap _ _ _ _ _ _ bRf) rfl rfl) rfl ?_
              exact ⟨by rw [hz.out]; rfl, KWf.row hwr _⟩
          · go_wp2_with fail
            first | change _ ∧ ahead _ _ _ _ _ _ _ _ | (refine wp_goto ?_; change _ ∧ ahead _ _ _ _ _ _ _ _)
            refine ⟨by decide, ahead_go rfl ?_⟩
            have hz : Hid (z = none) := by show z = none; rw [HR.out]; simp [finP]
            go_wp2_with (refine wpList_store_row rfl 44 _ _ rfl rb (evV ev0) rfl rfl 44 _ bR7s (ev_size _) rfl (ev_all _) ?_)
            simp only [jumps]
            refine bodyPost_ret (ev_ret rfl _ _ rb (evV ev0) (setRow_heap _ _ _ _ _ _ bR7s) rfl rfl) rfl ?_
            exact ⟨HZR.out hz.out, KW7s.row hwr _⟩
end Go.Proofs.YtjaldfmdjnkoeaaDoor
