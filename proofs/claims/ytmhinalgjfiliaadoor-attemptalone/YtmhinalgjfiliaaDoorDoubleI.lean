
/-
  Walks of the program's double and of its Put, also where the slots become twice as many. No statement of the seat is proved here.
-/
import Derived.Test.YtmhinalgjfiliaaDoorTabC
import Derived.Test.YtmhinalgjfiliaaDoorComingI
import Derived.RangeFuncBox
import Derived.Test.YtmhinalgjfiliaaDoorRoundB
namespace Go.Proofs.YtmhinalgjfiliaaDoor.I
open Go.RowKit Go.Shelf
attribute [local go_sem] Oper.semAt_some

theorem slots_any (bf : Int → Nat) (n : Nat) : slotCells bf (List.replicate n none) = slotCells (fun _ => 0) (List.replicate n none) := by
  simp [slotCells, slotVal]

set_option maxRecDepth 100000 in
set_option maxHeartbeats 1000000 in
theorem double_at (b s e0 p : Nat) (K : List (Option Int)) (O : List Int) (bf : Int → Nat) (vf : Int → Value) (w : World) (h : Good w b s e0 p K O bf vf) (hw : Tz w) (hpos : ∀ q, Own b s e0 O bf q → 0 < q) (hp : p < 45) :
    Calls Tryd.prog 71 #[.pointer (some ⟨b, 0, none⟩)] w fun e w' => (∃ v, e = .returned v) ∧
      TabAt kinds w' b (w.heap.size + 1) e0 (fillN (2 ^ (p + 1)) (homeP (p + 1)) O) O bf vf ∧ Keeps (fun k => k = b) w w' := by
  have hpow : 2 ^ (p + 1) = 2 * 2 ^ p := by rw [Nat.pow_succ]; omega
  have hKl : K.length = 2 ^ p := h.inv.len
  have hpw := h.pow
  have c0 := h.tab.c0
  rw [hKl] at c0
  have fb := h.tab.fb 0
  have hlb := lt_of_block h.tab.tab
  have hmk := run_slots (2 ^ (p + 1)) (show 2 ^ (p + 1) ≤ 2 ^ 45 from Nat.pow_le_pow_right (by decide) (by omega))
  have hload := h.load
  have hlen := h.len
  have hn8 : 8 ≤ 2 ^ p := Nat.pow_le_pow_right (n := 2) (by decide) h.p3
  have hbx : ∀ o, (w.alloc o).cell? ⟨b, 0, none⟩ = some (.slice (some ⟨s, 0, none⟩) (2 ^ p) (2 ^ p)) := fun o => by
    rw [World.cell?_alloc_lt _ _ ⟨b, 0, none⟩ hlb, c0]
  generalize hn' : 2 ^ (p + 1) = n' at *
  have Hn : Hid (2 ^ (p + 1) = n') := hn'
  clear hn'
  generalize hnn : 2 ^ p = n at *
  have Hnn : Hid (2 ^ p = n) := hnn
  clear hnn
  have Hp : Hid (n' = 2 * n) := hpow
  have hcast : (n' : Int) = 2 * (n : Int) := by omega
  have hmk2 : ∀ w : World, (Instr.makeSlice 127 (.int .i64 (2 * (n : Int))) (.int .i64 (2 * (n : Int)))).run Tryd.prog w =
    .ok (.slice (some ⟨w.heap.size, 0, none⟩) n' n') (w.alloc (.cells (slotCells (fun _ => 0) (List.replicate n' none)) 126)) := fun w => by rw [← hcast]; exact hmk w
  clear hmk hcast hpow hKl
  have HS : Hid (slotCells (fun _ => 0) (List.replicate n' none) = slotCells bf (List.replicate n' none)) := (slots_any bf n').symm
  generalize slotCells (fun _ => 0) (List.replicate n' none) = cs at *
  refine (callsIn_wide (n := 3)).1 ?_
  refine callsIn_of_wp_marks Tryd.func71 rfl trivial ?_ rfl
  simp only [Tryd.ntmps71, List.size_toArray, List.length_cons, List.length_nil, Nat.reduceAdd, Nat.reduceSub, Array.replicate_succ, Array.replicate_zero, List.push_toArray, List.append_toArray, List.nil_append, List.cons_append]
  have hwr : IntKind.i64.wrap (2 * (n : Int)) = 2 * (n : Int) := by rw [IntKind.wrap_i64]; omega
  have hmx : Tryd.prog.follows .mixedOrders = true := by kernel_rfl
  have hT2 := h.tab.reslot (List.replicate n' none) n' (by simp) (.cells #[.pointer (some ⟨b, 0, none⟩)] 103)
  rw [← HS.out] at hT2
  gi_wp2_with fail
  gi_region_o
  gi_wp2_with (refine ⟨trivial, ?_⟩; gi_at_call 83; refine (callsIn_wide.2 (coming_any _ _)).mono ?_; rintro e w1 ⟨rfl, rfl⟩)
  have hT3 : TabAt kinds ((((w.setCell ⟨b, 0, none⟩ (.slice (some ⟨w.heap.size + 1, 0, none⟩) n' n')).alloc (.cells #[.pointer (some ⟨b, 0, none⟩)] 103)).alloc (.cells cs 126)).alloc (.cells #[.pointer (some ⟨b, 0, none⟩)] 103)).drew b (w.heap.size + 1) e0 (List.replicate n' none) O bf vf :=
    Like.tab (by exact ⟨rfl, rfl, rfl, rfl⟩) (hT2.below ((Below.refl _ _).alloc (Nat.le_refl _) _))
  have hK3 : Keeps (fun k => k = b) w ((((w.setCell ⟨b, 0, none⟩ (.slice (some ⟨w.heap.size + 1, 0, none⟩) n' n')).alloc (.cells #[.pointer (some ⟨b, 0, none⟩)] 103)).alloc (.cells cs 126)).alloc (.cells #[.pointer (some ⟨b, 0, none⟩)] 103)).drew :=
    Like.keeps (by exact ⟨rfl, rfl, rfl, rfl⟩) (((((Keeps.refl (fun k => k = b) w).setCell (p := ⟨b, 0, none⟩) (.inr rfl) _).alloc _).alloc _).alloc _)
  have hx0 := alloc_old (alloc_old (alloc_block (w.setCell ⟨b, 0, none⟩ (.slice (some ⟨w.heap.size + 1, 0, none⟩) n' n')) (.cells #[.pointer (some ⟨b, 0, none⟩)] 103)) (.cells cs 126)) (.cells #[.pointer (some ⟨b, 0, none⟩)] 103)
  have hx2 := alloc_block (((w.setCell ⟨b, 0, none⟩ (.slice (some ⟨w.heap.size + 1, 0, none⟩) n' n')).alloc (.cells #[.pointer (some ⟨b, 0, none⟩)] 103)).alloc (.cells cs 126)) (.cells #[.pointer (some ⟨b, 0, none⟩)] 103)
  simp only [World.size_alloc, World.size_setCell] at hx0 hx2
  have hx0' : Boxed (((((w.setCell ⟨b, 0, none⟩ (.slice (some ⟨w.heap.size + 1, 0, none⟩) n' n')).alloc (.cells #[.pointer (some ⟨b, 0, none⟩)] 103)).alloc (.cells cs 126)).alloc (.cells #[.pointer (some ⟨b, 0, none⟩)] 103)).drew) w.heap.size 103 (.pointer (some ⟨b, 0, none⟩)) := hx0
  have hx2' : Boxed (((((w.setCell ⟨b, 0, none⟩ (.slice (some ⟨w.heap.size + 1, 0, none⟩) n' n')).alloc (.cells #[.pointer (some ⟨b, 0, none⟩)] 103)).alloc (.cells cs 126)).alloc (.cells #[.pointer (some ⟨b, 0, none⟩)] 103)).drew) (w.heap.size + 1 + 1) 103 (.pointer (some ⟨b, 0, none⟩)) := hx2
  have hz3 : (((((w.setCell ⟨b, 0, none⟩ (.slice (some ⟨w.heap.size + 1, 0, none⟩) n' n')).alloc (.cells #[.pointer (some ⟨b, 0, none⟩)] 103)).alloc (.cells cs 126)).alloc (.cells #[.pointer (some ⟨b, 0, none⟩)] 103)).drew).heap.size = w.heap.size + 3 := by
    show ((((w.setCell ⟨b, 0, none⟩ (.slice (some ⟨w.heap.size + 1, 0, none⟩) n' n')).alloc (.cells #[.pointer (some ⟨b, 0, none⟩)] 103)).alloc (.cells cs 126)).alloc (.cells #[.pointer (some ⟨b, 0, none⟩)] 103)).heap.size = _
    simp
  clear hx0 hx2 hT2
  generalize ((((w.setCell ⟨b, 0, none⟩ (.slice (some ⟨w.heap.size + 1, 0, none⟩) n' n')).alloc (.cells #[.pointer (some ⟨b, 0, none⟩)] 103)).alloc (.cells cs 126)).alloc (.cells #[.pointer (some ⟨b, 0, none⟩)] 103)).drew = W2 at hT3 hK3 hx0' hx2' hz3 ⊢
  have hltO : ∀ q, q ∈ O → bf q < w.heap.size := fun q hq => h.tab.lt (.inr (.inr (.inr ⟨q, hq, rfl⟩)))
  have hlte : e0 < w.heap.size := h.tab.lt (.inr (.inr (.inl rfl)))
  have hnw : ¬ Walked (w.heap.size + 1 + 1) b e0 O bf (w.heap.size + 1) := by
    rintro (h1 | h1 | h1 | ⟨q, hq, h1⟩)
    · omega
    · omega
    · omega
    · have := hltO q hq; omega
  have hR := hT3.ring (bx := w.heap.size + 1 + 1) (by have := Hp.out; simp; omega) hx2'
  rw [List.length_replicate] at hR
  clear c0 fb hbx hmk2 hwr
  refine' wpIn_rangeFunc_ownG rfl (by omega) (gf := 88) (lb := #[.pointer (some ⟨w.heap.size + 1 + 1, 0, none⟩)]) rfl trivial (enters_of Tryd.func88 (by kernel_rfl) rfl)
    (coming_stops (3 - 1) (by omega) (w.heap.size + 1 + 1) b (w.heap.size + 1) e0 n' O bf vf W2 hR)
    (fun h k => h.trans k) (fun W l o o' hl ho hc _ => KeptOn.putObj W l o o' ho hc) (Below.refl _ _) (fun _ => rfl)
    (fun pre W => (TabAt kinds W b (w.heap.size + 1) e0 (fillN n' (homeP (p + 1)) (pre.map (·.1))) O bf vf ∧ Boxed W w.heap.size 103 (.pointer (some ⟨b, 0, none⟩))) ∧ Keeps (fun k => k = b) w W)
    (fun _ _ _ => False)
    (OwnFrom.and (Go.Own.from (fun s A B row hs hg hr => ⟨hs.1.grown hg hr, block_kept hs.2 hg hr⟩) _) (ownFrom_keeps (by omega)))
    (fun _ _ _ _ _ hs _ _ => hs)
    ⟨⟨hT3, hx0'⟩, hK3⟩ _ ?assign ?body ?done ?stop
  case assign =>
    intro l x W K hK
    gi_wp2
    exact hK
  case stop =>
    rintro D c pre X _ _ h _
    exact h.elim
  case done =>
    rintro D ys X hD rfl ⟨⟨hTX, _⟩, hKX⟩ hK
    rw [firsts_all] at hTX
    have hTD := hTX.putObj hK rfl (.deferred none)
    have hKD := hKX.putObj (l := D) (by omega) (.deferred none)
    gi_wp2
    refine ⟨by simp, .inl ⟨_, _, rfl, run_takeDeferred hK, ?_⟩⟩
    exact ⟨_, results_none rfl _ _ _, ⟨_, rfl⟩, hTD, hKD⟩
  case body =>
    rintro l pre x W ⟨⟨hT, hbx⟩, hK⟩ hlen
    have hl3 : 3 ≤ p + 1 := by have := h.p3; omega
    have hO' : O.length < n' := by have := Hp.out; omega
    obtain ⟨O', hI, hsub⟩ := fill_any (n := n') (h := homeP (p + 1)) (fun k => by rw [← Hn.out]; exact homeP_lt _ (by omega) k) hO' _ (pre.map (·.1)) rfl (fun q hq => by
      obtain ⟨y, _, rfl⟩ := List.mem_map.1 hq
      exact y.2)
    have hmem : ∀ y k, sl (fillN n' (homeP (p + 1)) (pre.map (·.1))) y = some k → k ∈ O := fun y k hy => by
      obtain ⟨z, _, rfl⟩ := List.mem_map.1 (hsub k ((hI.mem k).2 ⟨y, hy⟩))
      exact z.2
    have hseen := hT.seen (p := p + 1) (by rw [hI.len, Hn.out]) hl3 (by omega) hmem
    have hWz : Tz W := hw.keeps hK (fun e => by have := hpos b (.inl rfl); omega)
    have hfree := hI.free
    have hfind : ∀ m, Calls Tryd.prog 70 #[.pointer (some ⟨b, 0, none⟩), .int .u64 x.1] (W.drewN m) fun e w' =>
      e = .returned (.tuple #[.int .i64 (slotN n' (fillN n' (homeP (p + 1)) (pre.map (·.1))) (homeP (p + 1) x.1) x.1), .int .i64 (lookN n' (fillN n' (homeP (p + 1)) (pre.map (·.1))) (homeP (p + 1) x.1) x.1 + 1 : Nat)]) ∧ w' = W.drewN m := fun m => by
        have := find_at b (w.heap.size + 1) (p + 1) _ bf x.1 (W.drewN m) ((like_drewN W m).seen hseen) ((like_drewN W m).tz hWz) (by rw [Hn.out]; exact hfree)
        rw [Hn.out] at this
        exact this
    have hsl : slotN n' (fillN n' (homeP (p + 1)) (pre.map (·.1))) (homeP (p + 1) x.1) x.1 < n' := slot_lt (hI.home x.1) x.1 hfree
    have hT' := hT.store (slotN n' (fillN n' (homeP (p + 1)) (pre.map (·.1))) (homeP (p + 1) x.1) x.1) (some x.1)
    have hcs := hT.cs (slotN n' (fillN n' (homeP (p + 1)) (pre.map (·.1))) (homeP (p + 1) x.1) x.1) (by rw [hI.len]; exact hsl)
    have hfs := hT.fs (slotN n' (fillN n' (homeP (p + 1)) (pre.map (·.1))) (homeP (p + 1) x.1) x.1)
    rw [← fillN_snoc] at hT'
    simp only [slotVal] at hT'
    have hmap : List.map (fun y : { q // q ∈ O } => y.1) (pre ++ [x]) = List.map (fun y : { q // q ∈ O } => y.1) pre ++ [x.1] := by simp
    rw [← hmap] at hT'
    have c0 := hT.c0
    rw [hI.len] at c0
    have hb0 := hbx.cell
    obtain ⟨ea, ec, hent⟩ := hT.key x.2
    have hck : W.cell? ⟨bf x.1, 0, none⟩ = some (.int .u64 x.1) := cell_of_block hent 0
    clear hmap hseen hWz hfree hmem hent hI hsub hT
    generalize slotN n' (fillN n' (homeP (p + 1)) (pre.map (·.1))) (homeP (p + 1) x.1) x.1 = j at *
    generalize lookN n' (fillN n' (homeP (p + 1)) (pre.map (·.1))) (homeP (p + 1) x.1) x.1 + 1 = L at *
    generalize slotVal bf (sl (fillN n' (homeP (p + 1)) (pre.map (·.1))) j) = u at *
    generalize hX : pre ++ [x] = X at *
    obtain ⟨B, hB⟩ : ∃ B, bf x.1 = B := ⟨_, rfl⟩
    rw [hB] at hck hT' ⊢
    clear hX hB
    gi_wp2
    refine wpIn_round_quiet (by kernel_rfl) (by kernel_rfl) (by kernel_rfl) ?_
    repeat (go_big_quiet_step ((go_at_call 70; exact (hfind _).mono (fun _ _ ⟨h1, h2⟩ => ⟨h1, _, h2⟩))))
    refine wpQuiet_nil ?_
    rintro _ ⟨nq, rfl⟩
    gi_wp2
    have hk1 := keepsFrom_set (B := W2.heap.size) W ⟨w.heap.size + 1, j, none⟩ (.pointer (some ⟨B, 0, none⟩))
    have hk2 := KeptOn.set (S := Walked (w.heap.size + 1 + 1) b e0 O bf) W ⟨w.heap.size + 1, j, none⟩ (.pointer (some ⟨B, 0, none⟩)) hnw
    exact ⟨⟨hk1.size, hk1.same⟩, ⟨hk2.size, hk2.block⟩, ⟨Like.tab (by exact ⟨rfl, rfl, rfl, rfl⟩) hT', block_other hbx (by omega) j _⟩, Like.keeps (by exact ⟨rfl, rfl, rfl, rfl⟩) (hK.setCell (p := ⟨w.heap.size + 1, j, none⟩) (.inl (by show w.heap.size ≤ w.heap.size + 1; omega)) _)⟩
end Go.Proofs.YtmhinalgjfiliaaDoor.I
