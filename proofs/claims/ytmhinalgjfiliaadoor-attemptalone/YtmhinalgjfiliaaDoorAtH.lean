
/-
  Steps of the program's attempts: store, free. No statement of the seat is proved here.
-/
import Derived.Test.YtmhinalgjfiliaaDoorAtG
namespace Go.Proofs.YtmhinalgjfiliaaDoor
open Go.RowKit Go.Shelf

theorem size_cell : (Tryd.prog.info? 44).map (·.size) = some 2 := by kernel_rfl
def zeroC : Array Value := #[.int .u64 0, .int .u64 0]
theorem pairA_one (d y : Int) : (#[Value.int .u64 d, .int .u64 y] : Array Value).all (·.oneCell') = true := by simp [Value.oneCell']

set_option maxRecDepth 100000 in
set_option maxHeartbeats 2000000 in
theorem store_more (a rr dr : Nat) (R : Sh) (L : List (Int × Int)) (Or Od : Nat → Prop) (S : Sd) (ws : List Int) (x : Int) (i : Nat) (d y : Int) (w : World) (h : On w a R rr dr L Or Od S ws x) (hp : S.pl = (i : Int)) (hi : (redoE L)[i]? = some (d, y)) (hd : 0 ≤ d) (hn : i + 1 < (redoE L).length) (hM : (redoE L).length ≤ 1024) :
    Calls Tryd.prog 64 #[.pointer (some ⟨a, 0, none⟩)] w fun e w' =>
      e = .returned (.tuple #[turnV 1 0 0 0 0 false, .int .i64 0]) ∧ On w' a R rr dr L Or Od (S.to 8 0 0 0 0 ((i : Int) + 1)) (C.putAt ws d y) x ∧ Keeps (Both a Or Od R) w w' := by
  have hf := h.far (Nat.le_refl w.heap.size)
  have hlt := lt_of_block h.at_.box
  have hil : i < (redoE L).length := (List.getElem?_eq_some_iff.1 hi).1
  have hmx : Tryd.prog.follows .mixedOrders = true := by kernel_rfl
  have HF : Hid (∀ q, Both a Or Od R q → q ≠ w.heap.size) := fun q hq e => hf (e ▸ hq)
  have hW1 : On (w.alloc (.cells zeroT 39)) a R rr dr L Or Od S ws x := h.al _
  have bW1 : (w.alloc (.cells zeroT 39)).heap[w.heap.size]? = some (.cells zeroT 39 (0, 0)) := alloc_block w _
  have kW1 : Keeps (Both a Or Od R) w (w.alloc (.cells zeroT 39)) := (Keeps.al w _).up
  have HT : Hid (∀ W1 W, W1.heap[w.heap.size]? = some (.cells zeroT 39 (0, 0)) → On W1 a R rr dr L Or Od S ws x → Keeps (Both a Or Od R) w W1 → Like W W1 → Calls Tryd.prog 76 #[.pointer (some ⟨dr, 0, none⟩), .int .i64 (i : Int)] W fun e W' => e = .returned (.tuple #[.agg #[.int .u64 d, .int .u64 y], .bool true]) ∧ (W'.cell? ⟨a, 4, none⟩ = some (.pointer (some ⟨dr, 0, none⟩)) ∧ W'.cell? ⟨a, 10, none⟩ = some (.int .i64 (i : Int))) ∧
      Hid (W'.heap[w.heap.size]? = some (.cells zeroT 39 (0, 0)) ∧ On W' a R rr dr L Or Od S ws x ∧ Keeps (Both a Or Od R) w W')) := fun W1 W hb h1 k1 hl => by
    have k0 := hl.keeps (Keeps.refl (fun _ => False) W1)
    refine (log_at dr 1024 L Od i d y W (h1.up k0).at_.wr hi).mono fun e W' ⟨h2, h3⟩ => ⟨h2, ?_⟩
    have h4 := h1.up (k0.trans h3)
    exact ⟨⟨h4.at_.cell 4, by rw [← hp]; exact h4.at_.cell 10⟩, (k0.trans h3).old hb (fun f => f), h4, k1.trans (k0.trans h3).up⟩
  have HT' : Hid (∀ W1 W, W1.heap[w.heap.size]? = some (.cells zeroT 39 (0, 0)) → On W1 a R rr dr L Or Od S ws x → Keeps (Both a Or Od R) w W1 → Like W (W1.alloc (.cells zeroC 44)) → Calls Tryd.prog 76 #[.pointer (some ⟨dr, 0, none⟩), .int .i64 (i : Int)] W fun e W' => e = .returned (.tuple #[.agg #[.int .u64 d, .int .u64 y], .bool true]) ∧ (W'.cell? ⟨a, 4, none⟩ = some (.pointer (some ⟨dr, 0, none⟩)) ∧ W'.cell? ⟨a, 10, none⟩ = some (.int .i64 (i : Int))) ∧
      Hid (W'.heap[w.heap.size]? = some (.cells zeroT 39 (0, 0)) ∧ W'.heap[W1.heap.size]? = some (.cells zeroC 44 (0, 0)) ∧ On W' a R rr dr L Or Od S ws x ∧ Keeps (Both a Or Od R) w W')) := fun W1 W hb h1 k1 hl => by
    have k0 := hl.keeps (Keeps.al W1 (.cells zeroC 44))
    refine (log_at dr 1024 L Od i d y W (h1.up k0).at_.wr hi).mono fun e W' ⟨h2, h3⟩ => ⟨h2, ?_⟩
    have h4 := h1.up (k0.trans h3)
    have h5 : W'.heap[W1.heap.size]? = some (.cells zeroC 44 (0, 0)) := h3.old (by rw [hl.heap]; exact alloc_block W1 _) (fun f => f)
    exact ⟨⟨h4.at_.cell 4, by rw [← hp]; exact h4.at_.cell 10⟩, (k0.trans h3).old hb (fun f => f), h5, h4, k1.trans (k0.trans h3).up⟩
  have HA : Hid (∀ X W g, X.heap[w.heap.size]? = some (.cells zeroT 39 (0, 0)) → X.heap[g]? = some (.cells #[.int .u64 d, .int .u64 y] 44 (0, 0)) → w.heap.size < g → On X a R rr dr L Or Od S ws x → Keeps (Both a Or Od R) w X → Like W X → Calls Tryd.prog 77 #[.pointer (some ⟨R.rb, 0, none⟩), .int .u64 d, .int .u64 y] W fun e W' => (∃ n, e = .returned (.int .i64 n)) ∧ (W'.cell? ⟨a, 0, none⟩ = some (.pointer (some ⟨R.rb, 0, none⟩)) ∧ W'.cell? ⟨g, 0, none⟩ = some (.int .u64 d) ∧ W'.cell? ⟨g, 1, none⟩ = some (.int .u64 y)) ∧ W'.cell? ⟨a, 4, none⟩ = some (.pointer (some ⟨dr, 0, none⟩)) ∧ W'.cell? ⟨a, 10, none⟩ = some (.int .i64 (i : Int)) ∧
      Hid (W'.heap[w.heap.size]? = some (.cells zeroT 39 (0, 0)) ∧ On W' a R rr dr L Or Od S (C.putAt ws d y) x ∧ Keeps (Both a Or Od R) w W')) := fun X W g hb hg hle h1 k1 hl => by
    have k0 := hl.keeps (Keeps.refl (fun _ => False) X)
    refine ((h1.up k0).store d y hd).mono fun e W' ⟨h2, h3, h4⟩ => ?_
    have hg' := h4.old (k0.old hg (fun f => f)) (h.far (Nat.le_of_lt hle))
    exact ⟨⟨_, h2⟩, ⟨h3.at_.cell 0, cell_of_block hg' 0, cell_of_block hg' 1⟩, h3.at_.cell 4, by rw [← hp]; exact h3.at_.cell 10, h4.old (k0.old hb (fun f => f)) hf, h3, k1.trans (k0.up.trans h4)⟩
  have HLN : Hid (∀ W, On W a R rr dr L Or Od S (C.putAt ws d y) x → Calls Tryd.prog 37 #[.pointer (some ⟨dr, 0, none⟩)] W fun e w' => e = .returned (.int .i64 (redoE L).length) ∧ w' = W) := fun W h1 => log_len dr 1024 L Od W h1.at_.wr
  have HG : Hid (∀ W, W.heap[w.heap.size]? = some (.cells zeroT 39 (0, 0)) → On W a R rr dr L Or Od S (C.putAt ws d y) x → Keeps (Both a Or Od R) w W → Calls Tryd.prog 54 #[.pointer (some ⟨a, 0, none⟩), standV 8 0 0 0 0 ((i : Int) + 1)] W fun e W' => e = .returned (.tuple #[turnV 1 0 0 0 0 false, .int .i64 0]) ∧ W'.heap[w.heap.size]? = some (.cells zeroT 39 (0, 0)) ∧ Hid (On W' a R rr dr L Or Od (S.to 8 0 0 0 0 ((i : Int) + 1)) (C.putAt ws d y) x ∧ Keeps (Both a Or Od R) w W')) := fun W hb h2 k2 =>
    (h2.goOn 8 0 0 0 0 ((i : Int) + 1)).mono fun e W' ⟨h3, h4, h5⟩ => ⟨h3, h5.old hb hf, h4, k2.trans h5⟩
  have d1 : (w.alloc (.cells zeroT 39)).cell? ⟨a, 4, none⟩ = some (.pointer (some ⟨dr, 0, none⟩)) ∧ (w.alloc (.cells zeroT 39)).cell? ⟨a, 10, none⟩ = some (.int .i64 (i : Int)) := ⟨hW1.at_.cell 4, by rw [← hp]; exact hW1.at_.cell 10⟩
  have hsz1 : (w.alloc (.cells zeroT 39)).heap.size = w.heap.size + 1 := by simp
  clear h
  generalize C.putAt ws d y = ws' at *
  unfold standV turnV at HG
  unfold turnV
  go_enter Tryd.func64, Tryd.ntmps64
  go_wp2_with fail
  change Code.wp _ _ _ _ (w.alloc (.cells zeroT 39))
  generalize w.alloc (.cells zeroT 39) = W1 at *
  have HT1 := fun W => HT.out W1 W bW1 hW1 kW1
  have HT2 := fun W => HT'.out W1 W bW1 hW1 kW1
  have HW1 : Hid (w.heap.size < W1.heap.size ∧ ∀ q, Both a Or Od R q → q ≠ W1.heap.size) := ⟨by omega, fun q hq e => by have := hW1.lt hq; omega⟩
  have dA : ∀ o, (W1.drew.alloc o).cell? ⟨a, 4, none⟩ = some (.pointer (some ⟨dr, 0, none⟩)) ∧ (W1.drew.alloc o).cell? ⟨a, 10, none⟩ = some (.int .i64 (i : Int)) := fun o => ⟨(hW1.al o).at_.cell 4, by rw [← hp]; exact (hW1.al o).at_.cell 10⟩
  clear HT HT' hW1 bW1 kW1
  refine wp_held_end (S := fun W => W.cell? ⟨a, 4, none⟩ = some (.pointer (some ⟨dr, 0, none⟩)) ∧ W.cell? ⟨a, 10, none⟩ = some (.int .i64 (i : Int))) 16 rfl hmx ?_
  refine held_take (i := 0) (v := .pointer (some ⟨a, 0, none⟩)) 8 rfl rfl (by kernel_rfl) (by kernel_rfl) (by kernel_rfl) rfl (fun w' hw' => by obtain ⟨z7, z8⟩ := hw'; go_simp) d1 ?_
  simp only [Act.put, List.setIfInBounds_toArray, List.set_cons_zero, List.set_cons_succ]
  refine held_take (i := 1) (v := .pointer (some ⟨a, 0, none⟩)) 9 rfl rfl (by kernel_rfl) (by kernel_rfl) (by kernel_rfl) rfl (fun w' hw' => by obtain ⟨z7, z8⟩ := hw'; go_simp) d1 ?_
  simp only [Act.put, List.setIfInBounds_toArray, List.set_cons_zero, List.set_cons_succ]
  refine held_take (i := 2) (v := .pointer (some ⟨a, 4, none⟩)) 10 rfl rfl (by kernel_rfl) (by kernel_rfl) (by kernel_rfl) rfl (fun w' hw' => by obtain ⟨z7, z8⟩ := hw'; go_simp) d1 ?_
  simp only [Act.put, List.setIfInBounds_toArray, List.set_cons_zero, List.set_cons_succ]
  refine held_take (i := 3) (v := .pointer (some ⟨dr, 0, none⟩)) 11 rfl rfl (by kernel_rfl) (by kernel_rfl) (by kernel_rfl) rfl (fun w' hw' => by obtain ⟨z7, z8⟩ := hw'; go_simp) d1 ?_
  simp only [Act.put, List.setIfInBounds_toArray, List.set_cons_zero, List.set_cons_succ]
  refine held_take (i := 4) (v := .pointer (some ⟨a, 0, none⟩)) 12 rfl rfl (by kernel_rfl) (by kernel_rfl) (by kernel_rfl) rfl (fun w' hw' => by obtain ⟨z7, z8⟩ := hw'; go_simp) d1 ?_
  simp only [Act.put, List.setIfInBounds_toArray, List.set_cons_zero, List.set_cons_succ]
  refine held_take (i := 5) (v := .pointer (some ⟨a, 0, none⟩)) 13 rfl rfl (by kernel_rfl) (by kernel_rfl) (by kernel_rfl) rfl (fun w' hw' => by obtain ⟨z7, z8⟩ := hw'; go_simp) d1 ?_
  simp only [Act.put, List.setIfInBounds_toArray, List.set_cons_zero, List.set_cons_succ]
  refine held_take (i := 6) (v := .pointer (some ⟨a, 5, none⟩)) 14 rfl rfl (by kernel_rfl) (by kernel_rfl) (by kernel_rfl) rfl (fun w' hw' => by obtain ⟨z7, z8⟩ := hw'; go_simp) d1 ?_
  simp only [Act.put, List.setIfInBounds_toArray, List.set_cons_zero, List.set_cons_succ]
  refine held_take (i := 7) (v := .pointer (some ⟨a, 10, none⟩)) 15 rfl rfl (by kernel_rfl) (by kernel_rfl) (by kernel_rfl) rfl (fun w' hw' => by obtain ⟨z7, z8⟩ := hw'; go_simp) d1 ?_
  simp only [Act.put, List.setIfInBounds_toArray, List.set_cons_zero, List.set_cons_succ]
  refine held_take (i := 8) (v := .int .i64 (i : Int)) 16 rfl rfl (by kernel_rfl) (by kernel_rfl) (by kernel_rfl) rfl (fun w' hw' => by obtain ⟨z7, z8⟩ := hw'; go_simp) d1 ?_
  simp only [Act.put, List.setIfInBounds_toArray, List.set_cons_zero, List.set_cons_succ]
  refine held_cv2 (i := 9) (j := 13) (f := 76) (args := #[.pointer (some ⟨dr, 0, none⟩), .int .i64 (i : Int)]) (vj := .pointer (some ⟨W1.drew.heap.size, 0, none⟩)) (wj := W1.drew.alloc (.cells zeroC 44)) 17 (some 4) (by kernel_rfl) rfl rfl rfl rfl rfl rfl (by go_simp) (by unfold zeroC; go_simp) (dA _) ((HT1 W1.drew ⟨rfl, rfl, rfl, rfl⟩).mono ?_) ?_
  · rintro e Wg ⟨rfl, hS2, hg⟩
    refine ⟨_, rfl, hS2, ?_⟩
    simp only [Act.put, List.setIfInBounds_toArray, List.set_cons_zero, List.set_cons_succ]
    refine held_take (i := 10) (v := .tuple #[.agg #[.int .u64 d, .int .u64 y], .bool true]) 7 rfl rfl (by kernel_rfl) (by kernel_rfl) (by kernel_rfl) rfl (fun w' hw' => by obtain ⟨z7, z8⟩ := hw'; go_simp) hS2 ?_
    simp only [Act.put, List.setIfInBounds_toArray, List.set_cons_zero, List.set_cons_succ]
    refine held_take (i := 11) (v := .agg #[.int .u64 d, .int .u64 y]) 18 rfl rfl (by kernel_rfl) (by kernel_rfl) (by kernel_rfl) rfl (fun w' hw' => by obtain ⟨z7, z8⟩ := hw'; go_simp) hS2 ?_
    simp only [Act.put, List.setIfInBounds_toArray, List.set_cons_zero, List.set_cons_succ]
    refine held_take (i := 12) (v := .bool true) 19 rfl rfl (by kernel_rfl) (by kernel_rfl) (by kernel_rfl) rfl (fun w' hw' => by obtain ⟨z7, z8⟩ := hw'; go_simp) hS2 ?_
    simp only [Act.put, List.setIfInBounds_toArray, List.set_cons_zero, List.set_cons_succ]
    refine held_val (i := 13) (v := .pointer (some ⟨Wg.heap.size, 0, none⟩)) (w' := Wg.alloc (.cells zeroC 44)) (some 4) (by kernel_rfl) rfl rfl rfl (by unfold zeroC; go_simp) ⟨(hg.out.2.1.al _).at_.cell 4, by rw [← hp]; exact (hg.out.2.1.al _).at_.cell 10⟩ ?_
    simp only [Act.put, List.setIfInBounds_toArray, List.set_cons_zero, List.set_cons_succ]
    have hb : (Wg.alloc (.cells zeroC 44)).heap[Wg.heap.size]? = some (.cells zeroC 44 (0, 0)) := alloc_block Wg _
    have hff : ∀ q, Both a Or Od R q → q ≠ Wg.heap.size := fun q hq e => by have := hg.out.2.1.lt hq; omega
    have hY : On (Wg.alloc (.cells zeroC 44)) a R rr dr L Or Od S ws x := hg.out.2.1.al _
    have hlg : w.heap.size < Wg.heap.size := lt_of_block hg.out.1
    have hb0 : (Wg.alloc (.cells zeroC 44)).heap[w.heap.size]? = some (.cells zeroT 39 (0, 0)) := alloc_old hg.out.1 _
    have kY : Keeps (Both a Or Od R) w (Wg.alloc (.cells zeroC 44)) := hg.out.2.2.trans (Keeps.al Wg _).up
    clear hg hS2
    generalize Wg.heap.size = g at *
    generalize Wg.alloc (.cells zeroC 44) = Y at *
    refine held_none (i := 14) (w' := Y.setRow g #[.int .u64 d, .int .u64 y]) (by kernel_rfl) rfl rfl rfl (run_store_op rfl g _ rfl rfl 44 zeroC hb size_cell rfl (pairA_one _ _)) ?_ ?_
    · have := hY.row hff #[.int .u64 d, .int .u64 y]
      exact ⟨this.at_.cell 4, by rw [← hp]; exact this.at_.cell 10⟩
    have p1 : (Y.setRow g #[.int .u64 d, .int .u64 y]).heap[w.heap.size]? = some (.cells zeroT 39 (0, 0)) := (setRow_keeps' (w := Y) (a := g) _).old hb0 (by omega)
    have p2 := setRow_heap Y g zeroC #[.int .u64 d, .int .u64 y] 44 (0, 0) hb
    have p4 := hY.row hff #[.int .u64 d, .int .u64 y]
    have p5 := kY.row (Nat.le_of_lt hlg) #[.int .u64 d, .int .u64 y]
    generalize Y.setRow g #[.int .u64 d, .int .u64 y] = X at *
    have hS3 : X.cell? ⟨a, 4, none⟩ = some (.pointer (some ⟨dr, 0, none⟩)) ∧ X.cell? ⟨a, 10, none⟩ = some (.int .i64 (i : Int)) := ⟨p4.at_.cell 4, by rw [← hp]; exact p4.at_.cell 10⟩
    refine held_val (i := 15) (v := .bool true) (w' := X) (some 5) (by kernel_rfl) rfl rfl rfl (by go_simp) hS3 ?_
    simp only [Act.put, List.setIfInBounds_toArray, List.set_cons_zero, List.set_cons_succ]
    refine held_end (by kernel_rfl) ?_ _
    have hS5 : X.cell? ⟨a, 0, none⟩ = some (.pointer (some ⟨R.rb, 0, none⟩)) ∧ X.cell? ⟨g, 0, none⟩ = some (.int .u64 d) ∧ X.cell? ⟨g, 1, none⟩ = some (.int .u64 y) := ⟨p4.at_.cell 0, cell_of_block p2 0, cell_of_block p2 1⟩
    have HA1 := fun W => HA.out X W g p1 p2 hlg p4 p5
    clear HT1 HT2 HA HW1 p1 p2 p4 p5 d1 dA hb hff hY hlg hb0 kY hS3
    go_wp2_with fail
    go_region_held3 (fun W : World => W.cell? ⟨a, 0, none⟩ = some (.pointer (some ⟨R.rb, 0, none⟩)) ∧ W.cell? ⟨g, 0, none⟩ = some (.int .u64 d) ∧ W.cell? ⟨g, 1, none⟩ = some (.int .u64 y)) (first | assumption | (exact hS5) | go_keep)
      ((go_at_call 77; refine (HA1 _ (by exact ⟨rfl, rfl, rfl, rfl⟩)).mono ?_; rintro e W3 ⟨⟨n3, rfl⟩, hS6, c4, c10, h3⟩))
    clear HA1 hS5 hS6
    have HL3 := HLN.out W3 h3.out.2.1
    have HG3 := HG.out W3 h3.out.1 h3.out.2.1 h3.out.2.2
    clear HLN HG h3
    go_wp2_with (go_at_call 37; refine HL3.mono ?_; rintro e w' ⟨rfl, hw'⟩; replace hw' := hw'.symm; subst hw')
    refine HG3.mono ?_
    rintro e W4 ⟨rfl, b4, h4⟩
    clear HG3
    go_wp2_with (refine wpList_store_row' rfl 39 _ _ rfl w.heap.size _ rfl rfl 39 _ b4 size_turn rfl (by simp [Value.oneCell']) ?_)
    refine bodyPost_ret (turn_ret rfl _ _ w.heap.size _ _ b4 rfl rfl) rfl ?_
    exact ⟨rfl, h4.out.1.row HF.out _, h4.out.2.row (Nat.le_refl _) _⟩
  · simp only [Act.put, List.setIfInBounds_toArray, List.set_cons_zero, List.set_cons_succ]
    refine held_call (i := 9) (f := 76) (args := #[.pointer (some ⟨dr, 0, none⟩), .int .i64 (i : Int)]) 17 (by kernel_rfl) rfl rfl rfl (by go_simp) ((HT2 (W1.drew.alloc (.cells zeroC 44)) ⟨rfl, rfl, rfl, rfl⟩).mono ?_)
    rintro e Y ⟨rfl, hS2, hg⟩
    refine ⟨_, rfl, hS2, ?_⟩
    simp only [Act.put, List.setIfInBounds_toArray, List.set_cons_zero, List.set_cons_succ]
    refine held_take (i := 10) (v := .tuple #[.agg #[.int .u64 d, .int .u64 y], .bool true]) 7 rfl rfl (by kernel_rfl) (by kernel_rfl) (by kernel_rfl) rfl (fun w' hw' => by obtain ⟨z7, z8⟩ := hw'; go_simp) hS2 ?_
    simp only [Act.put, List.setIfInBounds_toArray, List.set_cons_zero, List.set_cons_succ]
    refine held_take (i := 11) (v := .agg #[.int .u64 d, .int .u64 y]) 18 rfl rfl (by kernel_rfl) (by kernel_rfl) (by kernel_rfl) rfl (fun w' hw' => by obtain ⟨z7, z8⟩ := hw'; go_simp) hS2 ?_
    simp only [Act.put, List.setIfInBounds_toArray, List.set_cons_zero, List.set_cons_succ]
    refine held_take (i := 12) (v := .bool true) 19 rfl rfl (by kernel_rfl) (by kernel_rfl) (by kernel_rfl) rfl (fun w' hw' => by obtain ⟨z7, z8⟩ := hw'; go_simp) hS2 ?_
    simp only [Act.put, List.setIfInBounds_toArray, List.set_cons_zero, List.set_cons_succ]
    have hb := hg.out.2.1
    have hff := HW1.out.2
    have hY := hg.out.2.2.1
    have hlg := HW1.out.1
    have hb0 := hg.out.1
    have kY := hg.out.2.2.2
    clear hg hS2
    generalize hg0 : W1.drew.heap.size = g at *
    have hg1 : W1.heap.size = g := hg0
    rw [hg1] at hb hff hlg
    refine held_none (i := 14) (w' := Y.setRow g #[.int .u64 d, .int .u64 y]) (by kernel_rfl) rfl rfl rfl (run_store_op rfl g _ rfl rfl 44 zeroC hb size_cell rfl (pairA_one _ _)) ?_ ?_
    · have := hY.row hff #[.int .u64 d, .int .u64 y]
      exact ⟨this.at_.cell 4, by rw [← hp]; exact this.at_.cell 10⟩
    have p1 : (Y.setRow g #[.int .u64 d, .int .u64 y]).heap[w.heap.size]? = some (.cells zeroT 39 (0, 0)) := (setRow_keeps' (w := Y) (a := g) _).old hb0 (by omega)
    have p2 := setRow_heap Y g zeroC #[.int .u64 d, .int .u64 y] 44 (0, 0) hb
    have p4 := hY.row hff #[.int .u64 d, .int .u64 y]
    have p5 := kY.row (Nat.le_of_lt hlg) #[.int .u64 d, .int .u64 y]
    generalize Y.setRow g #[.int .u64 d, .int .u64 y] = X at *
    have hS3 : X.cell? ⟨a, 4, none⟩ = some (.pointer (some ⟨dr, 0, none⟩)) ∧ X.cell? ⟨a, 10, none⟩ = some (.int .i64 (i : Int)) := ⟨p4.at_.cell 4, by rw [← hp]; exact p4.at_.cell 10⟩
    refine held_val (i := 15) (v := .bool true) (w' := X) (some 5) (by kernel_rfl) rfl rfl rfl (by go_simp) hS3 ?_
    simp only [Act.put, List.setIfInBounds_toArray, List.set_cons_zero, List.set_cons_succ]
    refine held_end (by kernel_rfl) ?_ _
    have hS5 : X.cell? ⟨a, 0, none⟩ = some (.pointer (some ⟨R.rb, 0, none⟩)) ∧ X.cell? ⟨g, 0, none⟩ = some (.int .u64 d) ∧ X.cell? ⟨g, 1, none⟩ = some (.int .u64 y) := ⟨p4.at_.cell 0, cell_of_block p2 0, cell_of_block p2 1⟩
    have HA1 := fun W => HA.out X W g p1 p2 hlg p4 p5
    clear HT1 HT2 HA HW1 p1 p2 p4 p5 d1 dA hb hff hY hlg hb0 kY hS3
    go_wp2_with fail
    go_region_held3 (fun W : World => W.cell? ⟨a, 0, none⟩ = some (.pointer (some ⟨R.rb, 0, none⟩)) ∧ W.cell? ⟨g, 0, none⟩ = some (.int .u64 d) ∧ W.cell? ⟨g, 1, none⟩ = some (.int .u64 y)) (first | assumption | (exact hS5) | go_keep)
      ((go_at_call 77; refine (HA1 _ (by exact ⟨rfl, rfl, rfl, rfl⟩)).mono ?_; rintro e W3 ⟨⟨n3, rfl⟩, hS6, c4, c10, h3⟩))
    clear HA1 hS5 hS6
    have HL3 := HLN.out W3 h3.out.2.1
    have HG3 := HG.out W3 h3.out.1 h3.out.2.1 h3.out.2.2
    clear HLN HG h3
    go_wp2_with (go_at_call 37; refine HL3.mono ?_; rintro e w' ⟨rfl, hw'⟩; replace hw' := hw'.symm; subst hw')
    refine HG3.mono ?_
    rintro e W4 ⟨rfl, b4, h4⟩
    clear HG3
    go_wp2_with (refine wpList_store_row' rfl 39 _ _ rfl w.heap.size _ rfl rfl 39 _ b4 size_turn rfl (by simp [Value.oneCell']) ?_)
    refine bodyPost_ret (turn_ret rfl _ _ w.heap.size _ _ b4 rfl rfl) rfl ?_
    exact ⟨rfl, h4.out.1.row HF.out _, h4.out.2.row (Nat.le_refl _) _⟩
set_option maxRecDepth 100000 in
set_option maxHeartbeats 2000000 in
theorem store_last (a rr dr : Nat) (R : Sh) (L : List (Int × Int)) (Or Od : Nat → Prop) (S : Sd) (ws : List Int) (x : Int) (i : Nat) (d y : Int) (w : World) (h : On w a R rr dr L Or Od S ws x) (hp : S.pl = (i : Int)) (hi : (redoE L)[i]? = some (d, y)) (hd : 0 ≤ d) (hn : i + 1 = (redoE L).length) (hM : (redoE L).length ≤ 1024) :
    Calls Tryd.prog 64 #[.pointer (some ⟨a, 0, none⟩)] w fun e w' =>
      e = .returned (.tuple #[turnV 1 0 0 0 0 false, .int .i64 0]) ∧ On w' a R rr dr L Or Od (S.to 9 0 0 0 0 0) (C.putAt ws d y) x ∧ Keeps (Both a Or Od R) w w' := by
  have hf := h.far (Nat.le_refl w.heap.size)
  have hlt := lt_of_block h.at_.box
  have hil : i < (redoE L).length := (List.getElem?_eq_some_iff.1 hi).1
  have hmx : Tryd.prog.follows .mixedOrders = true := by kernel_rfl
  have HF : Hid (∀ q, Both a Or Od R q → q ≠ w.heap.size) := fun q hq e => hf (e ▸ hq)
  have hW1 : On (w.alloc (.cells zeroT 39)) a R rr dr L Or Od S ws x := h.al _
  have bW1 : (w.alloc (.cells zeroT 39)).heap[w.heap.size]? = some (.cells zeroT 39 (0, 0)) := alloc_block w _
  have kW1 : Keeps (Both a Or Od R) w (w.alloc (.cells zeroT 39)) := (Keeps.al w _).up
  have HT : Hid (∀ W1 W, W1.heap[w.heap.size]? = some (.cells zeroT 39 (0, 0)) → On W1 a R rr dr L Or Od S ws x → Keeps (Both a Or Od R) w W1 → Like W W1 → Calls Tryd.prog 76 #[.pointer (some ⟨dr, 0, none⟩), .int .i64 (i : Int)] W fun e W' => e = .returned (.tuple #[.agg #[.int .u64 d, .int .u64 y], .bool true]) ∧ (W'.cell? ⟨a, 4, none⟩ = some (.pointer (some ⟨dr, 0, none⟩)) ∧ W'.cell? ⟨a, 10, none⟩ = some (.int .i64 (i : Int))) ∧
      Hid (W'.heap[w.heap.size]? = some (.cells zeroT 39 (0, 0)) ∧ On W' a R rr dr L Or Od S ws x ∧ Keeps (Both a Or Od R) w W')) := fun W1 W hb h1 k1 hl => by
    have k0 := hl.keeps (Keeps.refl (fun _ => False) W1)
    refine (log_at dr 1024 L Od i d y W (h1.up k0).at_.wr hi).mono fun e W' ⟨h2, h3⟩ => ⟨h2, ?_⟩
    have h4 := h1.up (k0.trans h3)
    exact ⟨⟨h4.at_.cell 4, by rw [← hp]; exact h4.at_.cell 10⟩, (k0.trans h3).old hb (fun f => f), h4, k1.trans (k0.trans h3).up⟩
  have HT' : Hid (∀ W1 W, W1.heap[w.heap.size]? = some (.cells zeroT 39 (0, 0)) → On W1 a R rr dr L Or Od S ws x → Keeps (Both a Or Od R) w W1 → Like W (W1.alloc (.cells zeroC 44)) → Calls Tryd.prog 76 #[.pointer (some ⟨dr, 0, none⟩), .int .i64 (i : Int)] W fun e W' => e = .returned (.tuple #[.agg #[.int .u64 d, .int .u64 y], .bool true]) ∧ (W'.cell? ⟨a, 4, none⟩ = some (.pointer (some ⟨dr, 0, none⟩)) ∧ W'.cell? ⟨a, 10, none⟩ = some (.int .i64 (i : Int))) ∧
      Hid (W'.heap[w.heap.size]? = some (.cells zeroT 39 (0, 0)) ∧ W'.heap[W1.heap.size]? = some (.cells zeroC 44 (0, 0)) ∧ On W' a R rr dr L Or Od S ws x ∧ Keeps (Both a Or Od R) w W')) := fun W1 W hb h1 k1 hl => by
    have k0 := hl.keeps (Keeps.al W1 (.cells zeroC 44))
    refine (log_at dr 1024 L Od i d y W (h1.up k0).at_.wr hi).mono fun e W' ⟨h2, h3⟩ => ⟨h2, ?_⟩
    have h4 := h1.up (k0.trans h3)
    have h5 : W'.heap[W1.heap.size]? = some (.cells zeroC 44 (0, 0)) := h3.old (by rw [hl.heap]; exact alloc_block W1 _) (fun f => f)
    exact ⟨⟨h4.at_.cell 4, by rw [← hp]; exact h4.at_.cell 10⟩, (k0.trans h3).old hb (fun f => f), h5, h4, k1.trans (k0.trans h3).up⟩
  have HA : Hid (∀ X W g, X.heap[w.heap.size]? = some (.cells zeroT 39 (0, 0)) → X.heap[g]? = some (.cells #[.int .u64 d, .int .u64 y] 44 (0, 0)) → w.heap.size < g → On X a R rr dr L Or Od S ws x → Keeps (Both a Or Od R) w X → Like W X → Calls Tryd.prog 77 #[.pointer (some ⟨R.rb, 0, none⟩), .int .u64 d, .int .u64 y] W fun e W' => (∃ n, e = .returned (.int .i64 n)) ∧ (W'.cell? ⟨a, 0, none⟩ = some (.pointer (some ⟨R.rb, 0, none⟩)) ∧ W'.cell? ⟨g, 0, none⟩ = some (.int .u64 d) ∧ W'.cell? ⟨g, 1, none⟩ = some (.int .u64 y)) ∧ W'.cell? ⟨a, 4, none⟩ = some (.pointer (some ⟨dr, 0, none⟩)) ∧ W'.cell? ⟨a, 10, none⟩ = some (.int .i64 (i : Int)) ∧
      Hid (W'.heap[w.heap.size]? = some (.cells zeroT 39 (0, 0)) ∧ On W' a R rr dr L Or Od S (C.putAt ws d y) x ∧ Keeps (Both a Or Od R) w W')) := fun X W g hb hg hle h1 k1 hl => by
    have k0 := hl.keeps (Keeps.refl (fun _ => False) X)
    refine ((h1.up k0).store d y hd).mono fun e W' ⟨h2, h3, h4⟩ => ?_
    have hg' := h4.old (k0.old hg (fun f => f)) (h.far (Nat.le_of_lt hle))
    exact ⟨⟨_, h2⟩, ⟨h3.at_.cell 0, cell_of_block hg' 0, cell_of_block hg' 1⟩, h3.at_.cell 4, by rw [← hp]; exact h3.at_.cell 10, h4.old (k0.old hb (fun f => f)) hf, h3, k1.trans (k0.up.trans h4)⟩
  have HLN : Hid (∀ W, On W a R rr dr L Or Od S (C.putAt ws d y) x → Calls Tryd.prog 37 #[.pointer (some ⟨dr, 0, none⟩)] W fun e w' => e = .returned (.int .i64 (redoE L).length) ∧ w' = W) := fun W h1 => log_len dr 1024 L Od W h1.at_.wr
  have HG : Hid (∀ W, W.heap[w.heap.size]? = some (.cells zeroT 39 (0, 0)) → On W a R rr dr L Or Od S (C.putAt ws d y) x → Keeps (Both a Or Od R) w W → Calls Tryd.prog 54 #[.pointer (some ⟨a, 0, none⟩), standV 9 0 0 0 0 0] W fun e W' => e = .returned (.tuple #[turnV 1 0 0 0 0 false, .int .i64 0]) ∧ W'.heap[w.heap.size]? = some (.cells zeroT 39 (0, 0)) ∧ Hid (On W' a R rr dr L Or Od (S.to 9 0 0 0 0 0) (C.putAt ws d y) x ∧ Keeps (Both a Or Od R) w W')) := fun W hb h2 k2 =>
    (h2.goOn 9 0 0 0 0 0).mono fun e W' ⟨h3, h4, h5⟩ => ⟨h3, h5.old hb hf, h4, k2.trans h5⟩
  have d1 : (w.alloc (.cells zeroT 39)).cell? ⟨a, 4, none⟩ = some (.pointer (some ⟨dr, 0, none⟩)) ∧ (w.alloc (.cells zeroT 39)).cell? ⟨a, 10, none⟩ = some (.int .i64 (i : Int)) := ⟨hW1.at_.cell 4, by rw [← hp]; exact hW1.at_.cell 10⟩
  have hsz1 : (w.alloc (.cells zeroT 39)).heap.size = w.heap.size + 1 := by simp
  clear h
  generalize C.putAt ws d y = ws' at *
  unfold standV turnV at HG
  unfold turnV
  go_enter Tryd.func64, Tryd.ntmps64
  go_wp2_with fail
  change Code.wp _ _ _ _ (w.alloc (.cells zeroT 39))
  generalize w.alloc (.cells zeroT 39) = W1 at *
  have HT1 := fun W => HT.out W1 W bW1 hW1 kW1
  have HT2 := fun W => HT'.out W1 W bW1 hW1 kW1
  have HW1 : Hid (w.heap.size < W1.heap.size ∧ ∀ q, Both a Or Od R q → q ≠ W1.heap.size) := ⟨by omega, fun q hq e => by have := hW1.lt hq; omega⟩
  have dA : ∀ o, (W1.drew.alloc o).cell? ⟨a, 4, none⟩ = some (.pointer (some ⟨dr, 0, none⟩)) ∧ (W1.drew.alloc o).cell? ⟨a, 10, none⟩ = some (.int .i64 (i : Int)) := fun o => ⟨(hW1.al o).at_.cell 4, by rw [← hp]; exact (hW1.al o).at_.cell 10⟩
  clear HT HT' hW1 bW1 kW1
  refine wp_held_end (S := fun W => W.cell? ⟨a, 4, none⟩ = some (.pointer (some ⟨dr, 0, none⟩)) ∧ W.cell? ⟨a, 10, none⟩ = some (.int .i64 (i : Int))) 16 rfl hmx ?_
  refine held_take (i := 0) (v := .pointer (some ⟨a, 0, none⟩)) 8 rfl rfl (by kernel_rfl) (by kernel_rfl) (by kernel_rfl) rfl (fun w' hw' => by obtain ⟨z7, z8⟩ := hw'; go_simp) d1 ?_
  simp only [Act.put, List.setIfInBounds_toArray, List.set_cons_zero, List.set_cons_succ]
  refine held_take (i := 1) (v := .pointer (some ⟨a, 0, none⟩)) 9 rfl rfl (by kernel_rfl) (by kernel_rfl) (by kernel_rfl) rfl (fun w' hw' => by obtain ⟨z7, z8⟩ := hw'; go_simp) d1 ?_
  simp only [Act.put, List.setIfInBounds_toArray, List.set_cons_zero, List.set_cons_succ]
  refine held_take (i := 2) (v := .pointer (some ⟨a, 4, none⟩)) 10 rfl rfl (by kernel_rfl) (by kernel_rfl) (by kernel_rfl) rfl (fun w' hw' => by obtain ⟨z7, z8⟩ := hw'; go_simp) d1 ?_
  simp only [Act.put, List.setIfInBounds_toArray, List.set_cons_zero, List.set_cons_succ]
  refine held_take (i := 3) (v := .pointer (some ⟨dr, 0, none⟩)) 11 rfl rfl (by kernel_rfl) (by kernel_rfl) (by kernel_rfl) rfl (fun w' hw' => by obtain ⟨z7, z8⟩ := hw'; go_simp) d1 ?_
  simp only [Act.put, List.setIfInBounds_toArray, List.set_cons_zero, List.set_cons_succ]
  refine held_take (i := 4) (v := .pointer (some ⟨a, 0, none⟩)) 12 rfl rfl (by kernel_rfl) (by kernel_rfl) (by kernel_rfl) rfl (fun w' hw' => by obtain ⟨z7, z8⟩ := hw'; go_simp) d1 ?_
  simp only [Act.put, List.setIfInBounds_toArray, List.set_cons_zero, List.set_cons_succ]
  refine held_take (i := 5) (v := .pointer (some ⟨a, 0, none⟩)) 13 rfl rfl (by kernel_rfl) (by kernel_rfl) (by kernel_rfl) rfl (fun w' hw' => by obtain ⟨z7, z8⟩ := hw'; go_simp) d1 ?_
  simp only [Act.put, List.setIfInBounds_toArray, List.set_cons_zero, List.set_cons_succ]
  refine held_take (i := 6) (v := .pointer (some ⟨a, 5, none⟩)) 14 rfl rfl (by kernel_rfl) (by kernel_rfl) (by kernel_rfl) rfl (fun w' hw' => by obtain ⟨z7, z8⟩ := hw'; go_simp) d1 ?_
  simp only [Act.put, List.setIfInBounds_toArray, List.set_cons_zero, List.set_cons_succ]
  refine held_take (i := 7) (v := .pointer (some ⟨a, 10, none⟩)) 15 rfl rfl (by kernel_rfl) (by kernel_rfl) (by kernel_rfl) rfl (fun w' hw' => by obtain ⟨z7, z8⟩ := hw'; go_simp) d1 ?_
  simp only [Act.put, List.setIfInBounds_toArray, List.set_cons_zero, List.set_cons_succ]
  refine held_take (i := 8) (v := .int .i64 (i : Int)) 16 rfl rfl (by kernel_rfl) (by kernel_rfl) (by kernel_rfl) rfl (fun w' hw' => by obtain ⟨z7, z8⟩ := hw'; go_simp) d1 ?_
  simp only [Act.put, List.setIfInBounds_toArray, List.set_cons_zero, List.set_cons_succ]
  refine held_cv2 (i := 9) (j := 13) (f := 76) (args := #[.pointer (some ⟨dr, 0, none⟩), .int .i64 (i : Int)]) (vj := .pointer (some ⟨W1.drew.heap.size, 0, none⟩)) (wj := W1.drew.alloc (.cells zeroC 44)) 17 (some 4) (by kernel_rfl) rfl rfl rfl rfl rfl rfl (by go_simp) (by unfold zeroC; go_simp) (dA _) ((HT1 W1.drew ⟨rfl, rfl, rfl, rfl⟩).mono ?_) ?_
  · rintro e Wg ⟨rfl, hS2, hg⟩
    refine ⟨_, rfl, hS2, ?_⟩
    simp only [Act.put, List.setIfInBounds_toArray, List.set_cons_zero, List.set_cons_succ]
    refine held_take (i := 10) (v := .tuple #[.agg #[.int .u64 d, .int .u64 y], .bool true]) 7 rfl rfl (by kernel_rfl) (by kernel_rfl) (by kernel_rfl) rfl (fun w' hw' => by obtain ⟨z7, z8⟩ := hw'; go_simp) hS2 ?_
    simp only [Act.put, List.setIfInBounds_toArray, List.set_cons_zero, List.set_cons_succ]
    refine held_take (i := 11) (v := .agg #[.int .u64 d, .int .u64 y]) 18 rfl rfl (by kernel_rfl) (by kernel_rfl) (by kernel_rfl) rfl (fun w' hw' => by obtain ⟨z7, z8⟩ := hw'; go_simp) hS2 ?_
    simp only [Act.put, List.setIfInBounds_toArray, List.set_cons_zero, List.set_cons_succ]
    refine held_take (i := 12) (v := .bool true) 19 rfl rfl (by kernel_rfl) (by kernel_rfl) (by kernel_rfl) rfl (fun w' hw' => by obtain ⟨z7, z8⟩ := hw'; go_simp) hS2 ?_
    simp only [Act.put, List.setIfInBounds_toArray, List.set_cons_zero, List.set_cons_succ]
    refine held_val (i := 13) (v := .pointer (some ⟨Wg.heap.size, 0, none⟩)) (w' := Wg.alloc (.cells zeroC 44)) (some 4) (by kernel_rfl) rfl rfl rfl (by unfold zeroC; go_simp) ⟨(hg.out.2.1.al _).at_.cell 4, by rw [← hp]; exact (hg.out.2.1.al _).at_.cell 10⟩ ?_
    simp only [Act.put, List.setIfInBounds_toArray, List.set_cons_zero, List.set_cons_succ]
    have hb : (Wg.alloc (.cells zeroC 44)).heap[Wg.heap.size]? = some (.cells zeroC 44 (0, 0)) := alloc_block Wg _
    have hff : ∀ q, Both a Or Od R q → q ≠ Wg.heap.size := fun q hq e => by have := hg.out.2.1.lt hq; omega
    have hY : On (Wg.alloc (.cells zeroC 44)) a R rr dr L Or Od S ws x := hg.out.2.1.al _
    have hlg : w.heap.size < Wg.heap.size := lt_of_block hg.out.1
    have hb0 : (Wg.alloc (.cells zeroC 44)).heap[w.heap.size]? = some (.cells zeroT 39 (0, 0)) := alloc_old hg.out.1 _
    have kY : Keeps (Both a Or Od R) w (Wg.alloc (.cells zeroC 44)) := hg.out.2.2.trans (Keeps.al Wg _).up
    clear hg hS2
    generalize Wg.heap.size = g at *
    generalize Wg.alloc (.cells zeroC 44) = Y at *
    refine held_none (i := 14) (w' := Y.setRow g #[.int .u64 d, .int .u64 y]) (by kernel_rfl) rfl rfl rfl (run_store_op rfl g _ rfl rfl 44 zeroC hb size_cell rfl (pairA_one _ _)) ?_ ?_
    · have := hY.row hff #[.int .u64 d, .int .u64 y]
      exact ⟨this.at_.cell 4, by rw [← hp]; exact this.at_.cell 10⟩
    have p1 : (Y.setRow g #[.int .u64 d, .int .u64 y]).heap[w.heap.size]? = some (.cells zeroT 39 (0, 0)) := (setRow_keeps' (w := Y) (a := g) _).old hb0 (by omega)
    have p2 := setRow_heap Y g zeroC #[.int .u64 d, .int .u64 y] 44 (0, 0) hb
    have p4 := hY.row hff #[.int .u64 d, .int .u64 y]
    have p5 := kY.row (Nat.le_of_lt hlg) #[.int .u64 d, .int .u64 y]
    generalize Y.setRow g #[.int .u64 d, .int .u64 y] = X at *
    have hS3 : X.cell? ⟨a, 4, none⟩ = some (.pointer (some ⟨dr, 0, none⟩)) ∧ X.cell? ⟨a, 10, none⟩ = some (.int .i64 (i : Int)) := ⟨p4.at_.cell 4, by rw [← hp]; exact p4.at_.cell 10⟩
    refine held_val (i := 15) (v := .bool true) (w' := X) (some 5) (by kernel_rfl) rfl rfl rfl (by go_simp) hS3 ?_
    simp only [Act.put, List.setIfInBounds_toArray, List.set_cons_zero, List.set_cons_succ]
    refine held_end (by kernel_rfl) ?_ _
    have hS5 : X.cell? ⟨a, 0, none⟩ = some (.pointer (some ⟨R.rb, 0, none⟩)) ∧ X.cell? ⟨g, 0, none⟩ = some (.int .u64 d) ∧ X.cell? ⟨g, 1, none⟩ = some (.int .u64 y) := ⟨p4.at_.cell 0, cell_of_block p2 0, cell_of_block p2 1⟩
    have HA1 := fun W => HA.out X W g p1 p2 hlg p4 p5
    clear HT1 HT2 HA HW1 p1 p2 p4 p5 d1 dA hb hff hY hlg hb0 kY hS3
    go_wp2_with fail
    go_region_held3 (fun W : World => W.cell? ⟨a, 0, none⟩ = some (.pointer (some ⟨R.rb, 0, none⟩)) ∧ W.cell? ⟨g, 0, none⟩ = some (.int .u64 d) ∧ W.cell? ⟨g, 1, none⟩ = some (.int .u64 y)) (first | assumption | (exact hS5) | go_keep)
      ((go_at_call 77; refine (HA1 _ (by exact ⟨rfl, rfl, rfl, rfl⟩)).mono ?_; rintro e W3 ⟨⟨n3, rfl⟩, hS6, c4, c10, h3⟩))
    clear HA1 hS5 hS6
    have HL3 := HLN.out W3 h3.out.2.1
    have HG3 := HG.out W3 h3.out.1 h3.out.2.1 h3.out.2.2
    clear HLN HG h3
    go_wp2_with (go_at_call 37; refine HL3.mono ?_; rintro e w' ⟨rfl, hw'⟩; replace hw' := hw'.symm; subst hw')
    refine HG3.mono ?_
    rintro e W4 ⟨rfl, b4, h4⟩
    clear HG3
    go_wp2_with (refine wpList_store_row' rfl 39 _ _ rfl w.heap.size _ rfl rfl 39 _ b4 size_turn rfl (by simp [Value.oneCell']) ?_)
    refine bodyPost_ret (turn_ret rfl _ _ w.heap.size _ _ b4 rfl rfl) rfl ?_
    exact ⟨rfl, h4.out.1.row HF.out _, h4.out.2.row (Nat.le_refl _) _⟩
  · simp only [Act.put, List.setIfInBounds_toArray, List.set_cons_zero, List.set_cons_succ]
    refine held_call (i := 9) (f := 76) (args := #[.pointer (some ⟨dr, 0, none⟩), .int .i64 (i : Int)]) 17 (by kernel_rfl) rfl rfl rfl (by go_simp) ((HT2 (W1.drew.alloc (.cells zeroC 44)) ⟨rfl, rfl, rfl, rfl⟩).mono ?_)
    rintro e Y ⟨rfl, hS2, hg⟩
    refine ⟨_, rfl, hS2, ?_⟩
    simp only [Act.put, List.setIfInBounds_toArray, List.set_cons_zero, List.set_cons_succ]
    refine held_take (i := 10) (v := .tuple #[.agg #[.int .u64 d, .int .u64 y], .bool true]) 7 rfl rfl (by kernel_rfl) (by kernel_rfl) (by kernel_rfl) rfl (fun w' hw' => by obtain ⟨z7, z8⟩ := hw'; go_simp) hS2 ?_
    simp only [Act.put, List.setIfInBounds_toArray, List.set_cons_zero, List.set_cons_succ]
    refine held_take (i := 11) (v := .agg #[.int .u64 d, .int .u64 y]) 18 rfl rfl (by kernel_rfl) (by kernel_rfl) (by kernel_rfl) rfl (fun w' hw' => by obtain ⟨z7, z8⟩ := hw'; go_simp) hS2 ?_
    simp only [Act.put, List.setIfInBounds_toArray, List.set_cons_zero, List.set_cons_succ]
    refine held_take (i := 12) (v := .bool true) 19 rfl rfl (by kernel_rfl) (by kernel_rfl) (by kernel_rfl) rfl (fun w' hw' => by obtain ⟨z7, z8⟩ := hw'; go_simp) hS2 ?_
    simp only [Act.put, List.setIfInBounds_toArray, List.set_cons_zero, List.set_cons_succ]
    have hb := hg.out.2.1
    have hff := HW1.out.2
    have hY := hg.out.2.2.1
    have hlg := HW1.out.1
    have hb0 := hg.out.1
    have kY := hg.out.2.2.2
    clear hg hS2
    generalize hg0 : W1.drew.heap.size = g at *
    have hg1 : W1.heap.size = g := hg0
    rw [hg1] at hb hff hlg
    refine held_none (i := 14) (w' := Y.setRow g #[.int .u64 d, .int .u64 y]) (by kernel_rfl) rfl rfl rfl (run_store_op rfl g _ rfl rfl 44 zeroC hb size_cell rfl (pairA_one _ _)) ?_ ?_
    · have := hY.row hff #[.int .u64 d, .int .u64 y]
      exact ⟨this.at_.cell 4, by rw [← hp]; exact this.at_.cell 10⟩
    have p1 : (Y.setRow g #[.int .u64 d, .int .u64 y]).heap[w.heap.size]? = some (.cells zeroT 39 (0, 0)) := (setRow_keeps' (w := Y) (a := g) _).old hb0 (by omega)
    have p2 := setRow_heap Y g zeroC #[.int .u64 d, .int .u64 y] 44 (0, 0) hb
    have p4 := hY.row hff #[.int .u64 d, .int .u64 y]
    have p5 := kY.row (Nat.le_of_lt hlg) #[.int .u64 d, .int .u64 y]
    generalize Y.setRow g #[.int .u64 d, .int .u64 y] = X at *
    have hS3 : X.cell? ⟨a, 4, none⟩ = some (.pointer (some ⟨dr, 0, none⟩)) ∧ X.cell? ⟨a, 10, none⟩ = some (.int .i64 (i : Int)) := ⟨p4.at_.cell 4, by rw [← hp]; exact p4.at_.cell 10⟩
    refine held_val (i := 15) (v := .bool true) (w' := X) (some 5) (by kernel_rfl) rfl rfl rfl (by go_simp) hS3 ?_
    simp only [Act.put, List.setIfInBounds_toArray, List.set_cons_zero, List.set_cons_succ]
    refine held_end (by kernel_rfl) ?_ _
    have hS5 : X.cell? ⟨a, 0, none⟩ = some (.pointer (some ⟨R.rb, 0, none⟩)) ∧ X.cell? ⟨g, 0, none⟩ = some (.int .u64 d) ∧ X.cell? ⟨g, 1, none⟩ = some (.int .u64 y) := ⟨p4.at_.cell 0, cell_of_block p2 0, cell_of_block p2 1⟩
    have HA1 := fun W => HA.out X W g p1 p2 hlg p4 p5
    clear HT1 HT2 HA HW1 p1 p2 p4 p5 d1 dA hb hff hY hlg hb0 kY hS3
    go_wp2_with fail
    go_region_held3 (fun W : World => W.cell? ⟨a, 0, none⟩ = some (.pointer (some ⟨R.rb, 0, none⟩)) ∧ W.cell? ⟨g, 0, none⟩ = some (.int .u64 d) ∧ W.cell? ⟨g, 1, none⟩ = some (.int .u64 y)) (first | assumption | (exact hS5) | go_keep)
      ((go_at_call 77; refine (HA1 _ (by exact ⟨rfl, rfl, rfl, rfl⟩)).mono ?_; rintro e W3 ⟨⟨n3, rfl⟩, hS6, c4, c10, h3⟩))
    clear HA1 hS5 hS6
    have HL3 := HLN.out W3 h3.out.2.1
    have HG3 := HG.out W3 h3.out.1 h3.out.2.1 h3.out.2.2
    clear HLN HG h3
    go_wp2_with (go_at_call 37; refine HL3.mono ?_; rintro e w' ⟨rfl, hw'⟩; replace hw' := hw'.symm; subst hw')
    refine HG3.mono ?_
    rintro e W4 ⟨rfl, b4, h4⟩
    clear HG3
    go_wp2_with (refine wpList_store_row' rfl 39 _ _ rfl w.heap.size _ rfl rfl 39 _ b4 size_turn rfl (by simp [Value.oneCell']) ?_)
    refine bodyPost_ret (turn_ret rfl _ _ w.heap.size _ _ b4 rfl rfl) rfl ?_
    exact ⟨rfl, h4.out.1.row HF.out _, h4.out.2.row (Nat.le_refl _) _⟩

set_option maxRecDepth 100000 in
set_option maxHeartbeats 1000000 in
theorem free_at (a rr dr : Nat) (R : Sh) (L : List (Int × Int)) (Or Od : Nat → Prop) (S : Sd) (ws : List Int) (x : Int) (w : World) (h : On w a R rr dr L Or Od S ws x) (h0 : 0 ≤ S.sn) (h1 : S.sn < 18446744073709551616) (he : S.sn % 2 = 0) :
    Calls Tryd.prog 65 #[.pointer (some ⟨a, 0, none⟩)] w fun e w' =>
      e = .returned (.tuple #[turnV 4 0 6 0 (C.upw S.sn 2 / 2) false, .int .i64 0]) ∧ w'.heap[a]? = some (.cells overV 80 (0, 0)) ∧ ShAt w' R ws (if x == C.upw S.sn 1 then C.upw S.sn 2 else x) ∧ Keeps (Both a Or Od R) w w' := by
  have hf := h.far (Nat.le_refl w.heap.size)
  have hlt := lt_of_block h.at_.box
  have hS1 : (w.alloc (.cells zeroT 39)).cell? ⟨a, 1, none⟩ = some (.pointer (some ⟨R.ck, 0, none⟩)) ∧ (w.alloc (.cells zeroT 39)).cell? ⟨a, 2, none⟩ = some (.int .u64 S.sn) := ⟨(h.al _).at_.cell 1, (h.al _).at_.cell 2⟩
  have HT : Hid (∀ W, Like W (w.alloc (.cells zeroT 39)) → Calls Tryd.prog 78 #[.pointer (some ⟨R.ck, 0, none⟩), .int .u64 S.sn] W fun e W' => (∃ n, e = .returned (.int .i64 n)) ∧ (W'.cell? ⟨a, 1, none⟩ = some (.pointer (some ⟨R.ck, 0, none⟩)) ∧ W'.cell? ⟨a, 2, none⟩ = some (.int .u64 S.sn)) ∧ Hid (W'.heap[w.heap.size]? = some (.cells zeroT 39 (0, 0)) ∧ On W' a R rr dr L Or Od S ws (if x == C.upw S.sn 1 then C.upw S.sn 2 else x) ∧ Keeps (Both a Or Od R) w W')) := fun W hl => by
    have k0 := hl.keeps (Keeps.al w (.cells zeroT 39))
    refine ((h.up k0).leave S.sn h0 h1 he).mono fun e W' ⟨h1, h2, h3⟩ => ⟨h1, ⟨h2.at_.cell 1, h2.at_.cell 2⟩, h3.old ?_ hf, h2, k0.up.trans h3⟩
    rw [hl.heap]
    exact alloc_block w _
  have HC : Hid (∀ W x', W.heap[w.heap.size]? = some (.cells zeroT 39 (0, 0)) → On W a R rr dr L Or Od S ws x' → Keeps (Both a Or Od R) w W → Calls Tryd.prog 38 #[.pointer (some ⟨a, 0, none⟩), .int .u64 (C.upw S.sn 2)] W fun e W' => e = .returned (turnV 4 0 6 0 (C.upw S.sn 2 / 2) false) ∧ W'.heap[w.heap.size]? = some (.cells zeroT 39 (0, 0)) ∧ Hid (W'.heap[a]? = some (.cells overV 80 (0, 0)) ∧ ShAt W' R ws x' ∧ Keeps (Both a Or Od R) w W')) := fun W x' hb h2 k2 =>
    (commit_at a _ (C.upw S.sn 2) W h2.at_.box rfl).mono fun e W' ⟨h3, h4, h5⟩ => ⟨h3, h5.old hb (by omega), h4, h2.sh.att h2.dis (h5.mono (fun _ _ e => .inl e)), k2.trans (h5.mono (fun _ _ e => .inl (.inl e)))⟩
  have HLT : Hid (∀ q, R.own q → q ≠ w.heap.size) := fun q hq e => hf (.inr (e ▸ hq))
  clear h
  generalize (if x == C.upw S.sn 1 then C.upw S.sn 2 else x) = x' at *
  unfold turnV at HC ⊢
  generalize hy : C.upw S.sn 2 / 2 = y at *
  clear hy
  unfold C.upw at HC
  go_enter Tryd.func65, Tryd.ntmps65
  go_wp2_with fail
  go_region_held3 (fun W : World => W.cell? ⟨a, 1, none⟩ = some (.pointer (some ⟨R.ck, 0, none⟩)) ∧ W.cell? ⟨a, 2, none⟩ = some (.int .u64 S.sn)) (first | assumption | (exact hS1) | go_keep)
    ((go_at_call 78; refine (HT.out _ (by exact ⟨rfl, rfl, rfl, rfl⟩)).mono ?_; rintro e W1 ⟨⟨n1, rfl⟩, hS2, h1⟩))
  have d2 := hS2.2
  have HC1 := HC.out W1 x' h1.out.1 h1.out.2.1 h1.out.2.2
  clear HT HC h1 hS1 hS2
  go_wp2_with fail
  refine HC1.mono ?_
  rintro e W2 ⟨rfl, b2, h2⟩
  clear HC1
  go_wp2_with (refine wpList_store_row' rfl 39 _ _ rfl w.heap.size _ rfl rfl 39 _ b2 size_turn rfl (by simp [Value.oneCell']) ?_)
  refine bodyPost_ret (turn_ret rfl _ _ w.heap.size _ _ b2 rfl rfl) rfl ?_
  obtain ⟨q1, q2, q3⟩ := h2.out
  exact ⟨rfl, (setRow_keeps' (w := W2) (a := w.heap.size) _).old q1 (by omega), q2.kept (T := fun q => q = w.heap.size) (setRow_keeps' _) HLT.out, q3.row (Nat.le_refl _) _⟩
end Go.Proofs.YtmhinalgjfiliaaDoor
