
/- Walks of Parse (package code). No statement of the seat is proved here. -/
import Derived.Test.YtijommlodgpphaaDoorCdI
import Derived.Laws.ResultCell
import Derived.Laws.Rows
import Derived.Laws.Tables
namespace Go.Proofs.YtijommlodgpphaaDoor
open Go.RowKit Go.Shelf

/-- The operation of a name. -/
def namedN (h : List UInt8) : Option Nat := (List.range 18).find? fun k => decide (1 ≤ k) && ((nms[k]?).getD [] == h)
/-- Words as numbers. -/
def decAll : List (List UInt8) → Option (List Int)
  | [] => some []
  | x :: t => match decL x with
    | none => none
    | some n => (decAll t).map fun r => (n : Int) :: r
/-- The instruction whose text a line is. -/
def parseL (l : List UInt8) : Option I5 := match pcs l with
  | [] => none
  | h :: ws => match namedN h with
    | none => none
    | some op => if ws.length = partsN op then match decAll ws with
        | none => none
        | some N => if regOk op N then some (insOf op N) else none
      else none

theorem nms_inj : ∀ j : Fin 18, ∀ k : Fin 18, (nms[j.val]?).getD [] = (nms[k.val]?).getD [] → j = k := by decide
theorem namedN_yes {h : List UInt8} {k : Nat} (h1 : 1 ≤ k) (h2 : k ≤ 17) (he : (nms[k]?).getD [] = h) : namedN h = some k := by
  unfold namedN
  rw [List.find?_eq_some_iff_append]
  refine ⟨by simp [h1, he], List.range k, (List.range (18 - k - 1)).map (fun x => k + 1 + x), ?_, ?_⟩
  · have : List.range 18 = List.range (k + (1 + (18 - k - 1))) := by congr 1; omega
    rw [this, List.range_add, List.range_add]
    simp [Function.comp_def, Nat.add_assoc]
  · intro a ha
    have hlt : a < k := by simpa using ha
    simp only [Bool.not_eq_true', Bool.and_eq_false_iff]
    right
    rw [beq_eq_false_iff_ne]
    intro hx
    have := nms_inj ⟨a, by omega⟩ ⟨k, by omega⟩ (by rw [hx, he])
    simp at this; omega
theorem namedN_no {h : List UInt8} (hn : ∀ k : Nat, 1 ≤ k → k ≤ 17 → (nms[k]?).getD [] ≠ h) : namedN h = none := by
  unfold namedN
  rw [List.find?_eq_none]
  intro k hk
  have hlt : k < 18 := by simpa using hk
  by_cases h1 : 1 ≤ k
  · simp [hn k h1 (by omega)]
  · simp [h1]

theorem decGo_lt : ∀ (l : List UInt8) (b : Bool) (n m : Nat), n < 18446744073709551616 → decGo b n l = some m → m < 18446744073709551616
  | [], _, n, m, hn, h => by simp [decGo] at h; omega
  | c :: t, b, n, m, hn, h => by
    rw [decGo] at h
    split at h
    · cases h
    · split at h
      · cases h
      · refine decGo_lt t _ _ _ ?_ h
        have : c.toNat < 256 := c.toNat_lt
        omega
theorem decL_lt {l : List UInt8} {m : Nat} (h : decL l = some m) : m < 18446744073709551616 := by
  unfold decL at h
  split at h
  · cases h
  · exact decGo_lt l true 0 m (by omega) h
theorem decAll_some : ∀ (ws : List (List UInt8)) (Ns : List Nat), ws.map decL = Ns.map some → decAll ws = some (Ns.map fun (n : Nat) => (n : Int))
  | [], Ns, h => by cases Ns with | nil => rfl | cons a b => simp at h
  | x :: t, Ns, h => by
    cases Ns with
    | nil => simp at h
    | cons a b =>
      simp only [List.map_cons, List.cons.injEq] at h
      simp [decAll, h.1, decAll_some t b h.2]
theorem decAll_none : ∀ (ws : List (List UInt8)) (x : List UInt8), x ∈ ws → decL x = none → decAll ws = none
  | y :: t, x, hx, h => by
    rcases List.mem_cons.1 hx with rfl | hx
    · simp [decAll, h]
    · have := decAll_none t x hx h
      rw [decAll]
      split
      · rfl
      · rw [this]; rfl
theorem pcs_part : ∀ (l x : List UInt8), x ∈ pcs l → x.length ≤ l.length
  | [], x, h => by simp [pcs] at h; simp [h]
  | c :: t, x, h => by
    unfold pcs at h
    split at h
    · rcases List.mem_cons.1 h with rfl | h
      · simp
      · have := pcs_part t x h; simp; omega
    · split at h
      · rename_i a b hq
        rcases List.mem_cons.1 h with rfl | h
        · have := pcs_part t a (by rw [hq]; simp); simp; exact this
        · have := pcs_part t x (by rw [hq]; simp [h]); simp; omega
      · simp at h; subst h; simp

/-- What Parse answers. -/
def PPost (l : List UInt8) (e : Ending) : Prop := match parseL l with
  | some i => e = .returned (.tuple #[.agg i.cells, .int .i64 0])
  | none => e = .returned (.tuple #[.agg #[.int .i64 0, .int .i64 0, .int .i64 0, .int .i64 0, .int .u64 0], .int .i64 180])

theorem info_u64 : (Tryd.prog.info? 36).map (fun i => (i.zero, i.size, i.bytes)) = some (some (.int .u64 0), 1, 8) := by kernel_rfl
theorem size_ins : (Tryd.prog.info? 38).map (·.size) = some 5 := by kernel_rfl
theorem ins_ret {fn : Func} {p u : Tmp} (h : fn.results = #[.cell p 38, .tmp u]) (tmps : Array Value) (w : World) (b : Nat) (old cs : Array Value) (hb : w.heap[b]? = some (.cells old 38 (0, 0))) (hs : cs.size = 5)
    (hp : tmps.getD p undef = .pointer (some ⟨b, 0, none⟩)) : (results fn tmps).run Tryd.prog (w.setRow b cs) = .ok (.tuple #[.agg cs, tmps.getD u undef]) (w.setRow b cs) := by
  rw [results_cell_tmp h, hp]
  simp [asAddr, run_loadVar_row (w.setRow b cs) b 38 38 cs (0, 0) _ (setRow_heap w b old cs _ _ hb) Tryd.underlying38 rfl (by rw [size_ins, hs]), Result.andThen]
theorem wpList_store_row' {P : Program} {ops : Array Oper} {rest : List Oper} {op : Oper} {a : Act} {w : World} {Q : Exit → Act → World → Prop} (hgd : op.guard = none) (ty : TypeId) (x y : Operand) (ho : op.op = .store ty x y)
    (g : Nat) (cells : Array Value) (hx : a.eval x = .pointer (some ⟨g, 0, none⟩)) (hy : a.eval y = .agg cells) (t : TypeId) (old : Array Value) (hg : w.heap[g]? = some (.cells old t (0, 0))) (hi : (P.info? ty).map (·.size) = some cells.size)
    (hold : old.size = cells.size) (h1 : cells.all (·.oneCell') = true) (h : wpList P ops Q rest (a.put op.dst undef) (w.setRow g cells)) : wpList P ops Q (op :: rest) a w :=
  wpList_plain hgd fun _ hK => wp_store_row ty x y ho g cells hx hy t old hg hi hold h1 (hK _ _ h)
theorem Keeps.row {w W : World} {b : Nat} (h : Keeps (fun _ => False) w W) (hb : w.heap.size ≤ b) (cs : Array Value) : Keeps (fun _ => False) w (W.setRow b cs) :=
  ⟨h.os, h.tape, h.output, by simpa [World.setRow] using h.size, fun k hk hs => by
    rw [← h.block k hk hs]
    simp [World.setRow, Array.getElem?_modify, show ¬ b = k by omega]⟩

set_option maxRecDepth 100000 in
set_option maxHeartbeats 4000000 in
theorem parse_any (l : List UInt8) (hl : l.length < 4294967281) (w : World) (hw : Gl w) : Calls Tryd.prog 16 #[.string ⟨l.toArray⟩] w fun e w' => PPost l e ∧ Keeps (fun _ => False) w w' := by
  have kA := (Keeps.refl (fun _ => False) w).alloc (.cells #[.int .i64 0, .int .i64 0, .int .i64 0, .int .i64 0, .int .u64 0] 38)
  have SP := split_any l hl _ (hw.keeps kA)
  have hbad : Hid (parseL l = none → PPost l (.returned (.tuple #[.agg #[.int .i64 0, .int .i64 0, .int .i64 0, .int .i64 0, .int .u64 0], .int .i64 180]))) := fun h => by unfold PPost; rw [h]
  have hgood : Hid (∀ i, parseL l = some i → PPost l (.returned (.tuple #[.agg i.cells, .int .i64 0]))) := fun i h => by unfold PPost; rw [h]
  have hhd := wds_head l
  have hwl := wds_le l
  have hfew := @wds_few l
  have hmany := @wds_many l
  have hpl := pcs_le l
  generalize hW : wds l = W at *
  obtain ⟨h, ws, hp⟩ : ∃ h ws, pcs l = h :: ws := by
    cases hq : pcs l with
    | nil => exact absurd hq (pcs_ne l)
    | cons h ws => exact ⟨h, ws, rfl⟩
  obtain ⟨rest, rfl⟩ : ∃ rest, W = h :: rest := by
    rw [hp] at hhd
    cases W with
    | nil => simp at hhd
    | cons a b => simp at hhd; subst hhd; exact ⟨b, rfl⟩
  clear hhd
  have NM := fun w hw => named_any h w hw
  go_enter Tryd.func16, Tryd.ntmps16
  go_wp2_with fail
  refine SP.mono ?_
  rintro e w1 ⟨rfl, hw1⟩
  have k1 : Keeps (fun _ => False) w w1 := by rw [hw1]; exact kA.alloc _
  have G1 := hw.keeps k1
  have b1 : w1.heap[w.heap.size + 1]? = some (.cells (wcells (h :: rest) (min 5 (l.length + 1))) 9 (0, 0)) := by rw [hw1]; exact heap_two _ _ _
  have a1 : w1.heap[w.heap.size]? = some (.cells #[.int .i64 0, .int .i64 0, .int .i64 0, .int .i64 0, .int .u64 0] 38 (0, 0)) := by
    rw [hw1]
    exact ((MapKept.heap_alloc _ _).2 _ (by simp)).trans (MapKept.heap_alloc _ _).1
  have cw : w1.cell? ⟨w.heap.size + 1, 0, none⟩ = some (.string ⟨h.toArray⟩) := by rw [cell_of_block b1]; simp [wcells]
  simp only [World.size_alloc, List.length_cons] at *
  clear hw1 SP
  have hN0 : 1 ≤ min 5 (l.length + 1) := by omega
  generalize hNN : min 5 (l.length + 1) = N at *
  go_wp2_with fail
  refine (NM _ G1.nms).mono ?_
  rintro e w2 ⟨hNP, hw2⟩
  subst hw2
  clear NM
  rcases hNP with ⟨k, hk1, hk2, hke, rfl⟩ | ⟨hno, rfl⟩
  · have PA := parts_any (k : Int) (by omega) (by omega)
    have hpn := partsN_le (op := (k : Int)) (by omega) (by omega)
    have hnn := namedN_yes hk1 hk2 hke
    by_cases hlen : rest.length = partsN k
    · obtain rfl : rest = ws := by
        by_cases h4 : (pcs l).length ≤ 4
        · have := hfew h4
          rw [hp] at this
          simpa using this
        · have := hmany (by omega); omega
      have hpar : parseL l = match decAll rest with | none => none | some N => if regOk k N then some (insOf k N) else none := by
        unfold parseL
        rw [hp]
        dsimp only
        rw [hnn]
        dsimp only
        rw [if_pos hlen]
      have hl0 : 2 ≤ N := by
        cases l with
        | nil =>
          simp only [pcs, List.cons.injEq] at hp
          have hne : ∀ j : Fin 18, 1 ≤ j.val → (nms[j.val]?).getD [] ≠ [] := by decide
          have h0 := hne ⟨k, by omega⟩ hk1
          rw [hp.1] at hke h0
          exact absurd hke h0
        | cons c t => simp at hNN; omega
      have hall : ∀ x ∈ rest, x.length ≤ 140737488355328 := by
        intro x hx
        have := pcs_part l x (by rw [hp]; simp [hx])
        omega
      have BU := built_any (k : Int) (by omega) (by omega)
      have g1 : ((rest.length : Int) + 1 != 1 + (partsN k : Int)) = false := by simp; omega
      generalize hm : partsN k = m at *
      have mk := madeCells_u64 m
      have hml : (m : Int) ≤ 3 := by omega
      have g3 : rest.length = m := hlen
      clear kA hfew hmany hwl hlen hW
      have hmk := run_make_row' (P := Tryd.prog) 44 36 (.int .u64 0) 8 Tryd.underlying44 info_u64 rfl .i64 .i64 m (by omega) (by omega)
      have q0 := lt_of_block a1
      have q1 := lt_of_block b1
      have bq := (MapKept.heap_alloc w2 (.cells (u64s (List.replicate m 0)) 36)).1
      have az := ((MapKept.heap_alloc w2 (.cells (u64s (List.replicate m 0)) 36)).2 _ q0).trans a1
      have bz := ((MapKept.heap_alloc w2 (.cells (u64s (List.replicate m 0)) 36)).2 _ q1).trans b1
      have kq := k1.alloc (.cells (u64s (List.replicate m 0)) 36)
      have hq : Hid (w2.heap.size ≠ w.heap.size ∧ w2.heap.size ≠ w.heap.size + 1 ∧ w.heap.size ≤ w2.heap.size) := ⟨by omega, by omega, by omega⟩
      rw [← mk] at bq az bz kq
      go_wp2_with (first | (go_at_call 20; refine (PA _).mono ?_; rintro e w3 ⟨rfl, hw3⟩; replace hw3 := hw3.symm; subst hw3))
      clear hmk PA g1
      go_loopw [37] (fun v wr => ∃ Ns : List Nat, v = .int .i64 Ns.length ∧ Ns.length ≤ m ∧ Hid ((rest.take Ns.length).map decL = Ns.map some ∧ wr.heap[w2.heap.size]? = some (.cells (u64s (Ns.map (fun (n : Nat) => (n : Int)) ++ List.replicate (m - Ns.length) 0)) 36 (0, 0)) ∧ wr.heap[w.heap.size]? = some (.cells #[.int .i64 0, .int .i64 0, .int .i64 0, .int .i64 0, .int .u64 0] 38 (0, 0)) ∧ wr.heap[w.heap.size + 1]? = some (.cells (wcells (h :: rest) N) 9 (0, 0)) ∧ Keeps (fun _ => False) w wr)) (fun v _ => m - (intOf v).toNat)
      case atStart => exact ⟨[], rfl, Nat.zero_le _, ⟨by simp, bq.trans (by rw [mk]; simp), az, bz, kq⟩⟩
      case round =>
        obtain ⟨Ns, rfl, hnl, hh⟩ := hrel
        clear bq az bz kq
        obtain ⟨r1, r2, r3, r4, r5⟩ := hh.out
        by_cases hlt : Ns.length < m
        · have hli : (Ns.length : Int) < m := by omega
          have hlr : Ns.length < rest.length := by omega
          have DA := decimal_any (rest[Ns.length]'hlr) (hall _ (List.getElem_mem hlr)) wr
          have cx : wr.cell? ⟨w.heap.size + 1, 1 + Ns.length, none⟩ = some (.string ⟨(rest[Ns.length]'hlr).toArray⟩) := by
            rw [cell_of_block r4, Nat.add_comm]
            simp [wcells, List.getElem?_append_left, hlr]
          have hxm := List.getElem_mem hlr
          generalize hx : rest[Ns.length]'hlr = x at *
          clear r1 r2 r3 r4 r5
          go_wp2_with fail
          refine DA.mono ?_
          rintro e w3 ⟨hd, k3⟩
          unfold DPost at hd
          subst hd
          obtain ⟨r1, r2, r3, r4, r5⟩ := hh.out
          have s2 := (k3.block _ (lt_of_block r2) (fun f => f)).trans r2
          have s3 := (k3.block _ (lt_of_block r3) (fun f => f)).trans r3
          have s4 := (k3.block _ (lt_of_block r4) (fun f => f)).trans r4
          have s5 := r5.trans k3
          have cq : ∃ v, w3.cell? ⟨w2.heap.size, Ns.length, none⟩ = some v := by
            rw [cell_of_block s2]
            exact ⟨_, Array.getElem?_eq_getElem (by rw [u64s_size]; simp; omega)⟩
          obtain ⟨vq, cq⟩ := cq
          have fq := frozen_of_block s2 Ns.length
          have KS : ∀ n : Int, Keeps (fun _ => False) w (w3.setCell ⟨w2.heap.size, Ns.length, none⟩ (.int .u64 n)) := fun n => s5.setCell (.inl hq.out.2.2) _
          have t3 : ∀ n : Int, (w3.setCell ⟨w2.heap.size, Ns.length, none⟩ (.int .u64 n)).heap[w.heap.size]? = some (.cells #[.int .i64 0, .int .i64 0, .int .i64 0, .int .i64 0, .int .u64 0] 38 (0, 0)) := fun n => (Below.heap_setCell _ _ _ _ (by exact hq.out.1.symm)).trans s3
          have t4 : ∀ n : Int, (w3.setCell ⟨w2.heap.size, Ns.length, none⟩ (.int .u64 n)).heap[w.heap.size + 1]? = some (.cells (wcells (h :: rest) N) 9 (0, 0)) := fun n => (Below.heap_setCell _ _ _ _ (by exact hq.out.2.1.symm)).trans s4
          have t2 := fun n : Int => block_set s2 Ns.length (.int .u64 n)
          cases hdx : decL x with
          | none =>
            have hR := hbad.out (by rw [hpar, decAll_none rest x hxm hdx])
            have T3 := t3 0
            have kz := (KS 0).row (Nat.le_refl w.heap.size) #[.int .i64 0, .int .i64 0, .int .i64 0, .int .i64 0, .int .u64 0]
            clear DA r1 r2 r3 r4 r5 s2 s3 s4 s5 t2 t3 t4 KS hh cx
            simp only [Option.getD_none, Option.isSome_none]
            go_wp2_with (refine wpList_store_row' rfl 38 _ _ rfl w.heap.size _ rfl rfl 38 _ T3 size_ins rfl (by simp [Value.oneCell']) ?_)
            refine bodyPost_ret (ins_ret rfl _ _ w.heap.size _ _ T3 rfl rfl) rfl ?_
            exact ⟨hR, kz⟩
          | some n =>
            have T2 := t2 n
            have T3 := t3 n
            have T4 := t4 n
            have T5 := KS n
            clear DA r2 r3 r4 r5 s2 s3 s4 s5 t2 t3 t4 KS hh cx
            simp only [Option.getD_some, Option.isSome_some]
            go_wp2_with fail
            go_roundw
            · refine ⟨Ns ++ [n], by simp, by simp; omega, ⟨?_, ?_, T3, T4, T5⟩⟩
              · rw [List.length_append, List.length_singleton, List.take_succ_eq_append_getElem hlr, hx]
                simp [r1, hdx]
              · rw [T2, u64s_set]
                congr 2
                congr 1
                rw [List.set_append_right _ _ (by simp)]
                simp only [List.length_map, Nat.sub_self, List.map_append, List.map_cons, List.map_nil, List.append_assoc, List.length_append, List.length_singleton]
                congr 1
                obtain ⟨d, hd⟩ : ∃ d, m - Ns.length = d + 1 := ⟨m - Ns.length - 1, by omega⟩
                rw [hd, List.replicate_succ, List.set_cons_zero, show m - (Ns.length + 1) = d by omega]
                rfl
            · simp [intOf]; omega
        · obtain hlm : Ns.length = m := by omega
          have hli : ¬ (Ns.length : Int) < m := by omega
          rw [show rest.take Ns.length = rest by rw [hlm, ← g3]; simp] at r1
          rw [hlm, Nat.sub_self, List.replicate_zero, List.append_nil] at r2
          have hD := decAll_some rest Ns r1
          have hb : ∀ x ∈ Ns.map (fun (n : Nat) => (n : Int)), 0 ≤ x ∧ x < 18446744073709551616 := by
            intro x hx
            obtain ⟨n, hn, rfl⟩ := List.mem_map.1 hx
            have : some n ∈ rest.map decL := by rw [r1]; exact List.mem_map.2 ⟨n, hn, rfl⟩
            obtain ⟨y, _, hy⟩ := List.mem_map.1 this
            have := decL_lt hy
            omega
          rw [hD] at hpar
          dsimp only at hpar
          have BB := BU (Ns.map (fun (n : Nat) => (n : Int))) (by simpa using hlm) hb wr w2.heap.size r2
          have hlen : (Ns.map (fun (n : Nat) => (n : Int))).length = m := by simpa using hlm
          rw [hlen] at BB
          generalize Ns.map (fun (n : Nat) => (n : Int)) = NN at *
          clear hh r1 r2 r4 BU cw b1 hD hb hlen
          rw [hlm]
          go_wp2_with fail
          refine BB.mono ?_
          rintro e w3 ⟨hU, k3⟩
          have s3 := (k3.block _ (lt_of_block r3) (fun f => f)).trans r3
          have s5 := r5.trans k3
          obtain ⟨U1, U2⟩ := hU
          cases hreg : regOk k NN with
          | false =>
            have he := U2 hreg
            subst he
            have hR := hbad.out (by rw [hpar, hreg]; rfl)
            have T3 := ((MapKept.heap_alloc w3 (.cells #[.int .i64 0, .int .i64 0, .int .i64 0, .int .i64 0, .int .u64 0] 38)).2 _ (lt_of_block s3)).trans s3
            have kz := (s5.alloc (.cells #[.int .i64 0, .int .i64 0, .int .i64 0, .int .i64 0, .int .u64 0] 38)).row (Nat.le_refl w.heap.size) #[.int .i64 0, .int .i64 0, .int .i64 0, .int .i64 0, .int .u64 0]
            clear BB U1 U2 hpar hbad hgood s5 r5 r3
            go_wp2_with (refine wpList_store_row' rfl 38 _ _ rfl w.heap.size _ rfl rfl 38 _ T3 size_ins rfl (by simp [Value.oneCell']) ?_)
            refine bodyPost_ret (ins_ret rfl _ _ w.heap.size _ _ T3 rfl rfl) rfl ?_
            exact ⟨hR, kz⟩
          | true =>
            have he := U1 hreg
            subst he
            rw [hreg] at hpar
            have hR := hgood.out _ hpar
            generalize insOf k NN = ii at *
            obtain ⟨op, a, b, c, n⟩ := ii
            have T3 := ((MapKept.heap_alloc w3 (.cells #[.int .i64 op, .int .i64 a, .int .i64 b, .int .i64 c, .int .u64 n] 38)).2 _ (lt_of_block s3)).trans s3
            have kz := (s5.alloc (.cells #[.int .i64 op, .int .i64 a, .int .i64 b, .int .i64 c, .int .u64 n] 38)).row (Nat.le_refl w.heap.size) #[.int .i64 op, .int .i64 a, .int .i64 b, .int .i64 c, .int .u64 n]
            clear BB U1 U2 hpar hbad hgood s5 r5 r3
            dsimp only [I5.cells] at *
            go_wp2_with (refine wpList_store_row' rfl 38 _ _ rfl w.heap.size _ rfl rfl 38 _ T3 size_ins rfl (by simp [Value.oneCell']) ?_)
            refine bodyPost_ret (ins_ret rfl _ _ w.heap.size _ _ T3 rfl rfl) rfl ?_
            exact ⟨hR, kz⟩
    · have hpar : parseL l = none := by
        unfold parseL
        rw [hp]
        dsimp only
        rw [hnn]
        dsimp only
        rw [if_neg]
        intro hc
        by_cases h4 : (pcs l).length ≤ 4
        · have := hfew h4
          rw [hp] at this
          simp at this
          rw [← this] at hc
          exact hlen hc
        · rw [hp, List.length_cons] at h4; omega
      have hR := hbad.out hpar
      have g1 : ((rest.length : Int) + 1 != 1 + (partsN k : Int)) = true := by simp; omega
      have kz := k1.row (Nat.le_refl w.heap.size) #[.int .i64 0, .int .i64 0, .int .i64 0, .int .i64 0, .int .u64 0]
      generalize partsN k = m at *
      generalize rest.length = rl at *
      clear hbad hgood hfew hmany hpar hnn hlen cw b1 kA
      go_wp2_with (first | (go_at_call 20; refine (PA _).mono ?_; rintro e w3 ⟨rfl, hw3⟩; replace hw3 := hw3.symm; subst hw3) | (refine wpList_store_row' rfl 38 _ _ rfl w.heap.size _ rfl rfl 38 _ a1 size_ins rfl (by simp [Value.oneCell']) ?_))
      refine bodyPost_ret (ins_ret rfl _ _ w.heap.size _ _ a1 rfl rfl) rfl ?_
      exact ⟨hR, kz⟩
  · have hpar : parseL l = none := by
      unfold parseL
      rw [hp]
      dsimp only
      rw [namedN_no hno]
    have hR := hbad.out hpar
    have kz := k1.row (Nat.le_refl w.heap.size) #[.int .i64 0, .int .i64 0, .int .i64 0, .int .i64 0, .int .u64 0]
    clear hbad hgood hfew hmany hpar cw b1 kA
    go_wp2_with (refine wpList_store_row' rfl 38 _ _ rfl w.heap.size _ rfl rfl 38 _ a1 size_ins rfl (by simp [Value.oneCell']) ?_)
    refine bodyPost_ret (ins_ret rfl _ _ w.heap.size _ _ a1 rfl rfl) rfl ?_
    exact ⟨hR, kz⟩
end Go.Proofs.YtijommlodgpphaaDoor
