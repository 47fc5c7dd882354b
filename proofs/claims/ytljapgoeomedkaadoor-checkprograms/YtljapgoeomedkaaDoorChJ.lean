
/- Walks of Program, Modes and Followers (package check). No statement of the seat is proved here. -/
import Derived.Test.YtljapgoeomedkaaDoorChH
namespace Go.Proofs.YtljapgoeomedkaaDoor
open Go.RowKit Go.Shelf

set_option maxRecDepth 100000 in
theorem program_any (v : Value) (p : List I5) (w : World) (h : InsAt w v p) (hG : Gb w) : Calls Tryd.prog 16 #[v] w fun e w' => e = .returned (.agg (wrV (verd p).1 (verd p).2)) ∧ Keeps (fun _ => False) w w' := by
  have k0 := (Keeps.refl (fun _ => False) w).alloc (.cells #[.int .i64 0, .int .i64 0] 40)
  have LA := look_any v p _ (h.keeps k0) (hG.keeps k0)
  obtain ⟨⟨av, cap, rfl, -⟩, -, -⟩ := h
  have lb : w.heap.size < (w.alloc (.cells #[.int .i64 0, .int .i64 0] 40)).heap.size := by simp
  go_enter Tryd.func16, Tryd.ntmps16
  go_wp2_with fail
  refine LA.mono ?_
  rintro e w1 ⟨fv, rfl, k1, -, -⟩
  generalize ha : (verd p).1 = a at *
  generalize hb : (verd p).2 = b at *
  have K1 := k0.trans k1
  have B1 := (k1.block _ lb (fun f => f)).trans (heap_alloc_new _ _)
  unfold wrV
  have K2 := K1.alloc (.cells #[.int .i64 a, .int .i64 b] 40)
  have B2 := (((Keeps.refl (fun _ => False) w1).alloc (.cells #[.int .i64 a, .int .i64 b] 40)).block _ (lt_of_block B1) (fun f => f)).trans B1
  go_wp2_with (refine wpList_store_row rfl 40 _ _ rfl w.heap.size (wrV a b) rfl rfl 40 _ B2 (wr_size _ _) rfl (wr_all _ _) ?_)
  refine bodyPost_ret (wrong_ret1 rfl _ _ w.heap.size (wrV a b) (setRow_heap _ _ _ _ _ _ B2) rfl rfl) rfl ?_
  exact ⟨by rw [ha, hb], K2.row (Nat.le_refl _) _⟩

def modeB (x y : Bool) : Int := if y then 2 else if x then 1 else 0
theorem mode_any (x y : Bool) (w : World) : Calls Tryd.prog 32 #[.agg #[.bool x, .bool y]] w fun e w' => e = .returned (.int .i64 (modeB x y)) ∧ w' = w.alloc (.cells #[.bool x, .bool y] 76) := by
  rcases y with _ | _
  · rcases x with _ | _
    · go_enter Tryd.func32, Tryd.ntmps32
      go_wp2_with fail
      go_ret
      exact ⟨rfl, rfl⟩
    · go_enter Tryd.func32, Tryd.ntmps32
      go_wp2_with fail
      go_ret
      exact ⟨rfl, rfl⟩
  · go_enter Tryd.func32, Tryd.ntmps32
    go_wp2_with fail
    go_ret
    exact ⟨by simp [modeB], rfl⟩

noncomputable def modeN (p : List I5) (k : Nat) : Int := modeB (reachB p k false) (reachB p k true)
/-- A row of modes of the call's own, and one of them written over. -/
def mds (n : Nat) (f : Nat → Int) : Array Value := ((List.range n).map fun j => Value.int .i64 (f j)).toArray
theorem mds_size (n : Nat) (f : Nat → Int) : (mds n f).size = n := by simp [mds]
theorem mds_at {n k : Nat} (h : k < n) (f : Nat → Int) : (mds n f)[k]? = some (.int .i64 (f k)) := by simp [mds, h]
theorem mds_set (n k : Nat) (f : Nat → Int) (x : Int) : (mds n f).setIfInBounds k (.int .i64 x) = mds n fun j => if j = k then x else f j := by
  apply Array.ext_getElem?
  intro j
  rw [Array.getElem?_setIfInBounds]
  simp only [mds_size]
  by_cases h : k = j
  · subst h
    rw [if_pos rfl]
    by_cases hk : k < n
    · rw [if_pos hk, mds_at hk, if_pos rfl]
    · rw [if_neg hk]; simp [mds, hk]
  · rw [if_neg h]
    by_cases hj : j < n
    · rw [mds_at hj, mds_at hj, if_neg (Ne.symm h)]
    · simp [mds, hj]
theorem mds_congr {n : Nat} {f g : Nat → Int} (h : ∀ j, j < n → f j = g j) : mds n f = mds n g := by
  unfold mds
  congr 1
  apply List.map_congr_left
  intro j hj
  rw [h j (List.mem_range.1 hj)]
theorem info_mode : (Tryd.prog.info? 70).map (fun i => (i.zero, i.size, i.bytes)) = some (some (.int .i64 0), 1, 8) := by kernel_rfl
theorem run_modes (w : World) (n : Nat) (h1 : n ≤ 65536) : (Instr.makeSlice 24 (.int .i64 (n : Int)) (.int .i64 (n : Int))).run Tryd.prog w = .ok (.slice (some ⟨w.heap.size, 0, none⟩) n n) (w.alloc (.cells (mds n fun _ => 0) 70)) := by
  obtain ⟨i0, hi, hz0, hz1, hz2⟩ := info_parts info_mode
  have h := run_make (P := Tryd.prog) w 24 70 i0 (.int .i64 0) Tryd.underlying24 hi hz0 .i64 .i64 (n : Int) (n : Int) (by omega) (Int.le_refl _) (by rw [hz2]; omega) (by omega)
  rw [hz1, Nat.mul_one, Int.toNat_natCast] at h
  rw [h]
  have e : madeCells (Value.int .i64 0).cells n = mds n fun _ => 0 := by
    apply Array.ext_getElem?
    intro j
    by_cases hj : j < n
    · rw [mds_at hj]; simp [madeCells, Value.cells, hj, Nat.mod_one]
    · simp [madeCells, mds, hj]
  rw [e]

/-- What Modes answers. -/
def MPost (p : List I5) (w : World) (e : Ending) (w' : World) : Prop := ∃ mv, e = .returned (.tuple #[mv, .int .i64 (verd p).2]) ∧ Keeps (fun _ => False) w w' ∧
  ((verd p).2 = 0 → ∃ g, mv = .slice (some ⟨g, 0, none⟩) p.length p.length ∧ w.heap.size ≤ g ∧ w'.heap[g]? = some (.cells (mds p.length (modeN p)) 70 (0, 0))) ∧ ((verd p).2 ≠ 0 → mv = .slice none 0 0)
theorem verd_ok_len {p : List I5} (h : (verd p).2 = 0) : 0 < p.length ∧ p.length ≤ 256 := by
  by_cases hc : p.length < 1 ∨ 256 < p.length
  · rw [verd_count hc] at h; simp at h
  · omega

set_option maxRecDepth 100000 in
set_option maxHeartbeats 2000000 in
theorem modes_any (v : Value) (p : List I5) (w : World) (h : InsAt w v p) (hG : Gb w) : Calls Tryd.prog 10 #[v] w (MPost p w) := by
  have LA := look_any v p w h hG
  obtain ⟨⟨av, cap, rfl, -⟩, -, -⟩ := h
  go_enter Tryd.func10, Tryd.ntmps10
  go_wp2_with fail
  refine LA.mono ?_
  rintro e w1 ⟨fv, rfl, k1, hok, hno⟩
  have K1 := k1.alloc (.cells (wrV (verd p).1 (verd p).2) 40)
  by_cases hv : (verd p).2 = 0
  · obtain ⟨f, rfl, hf, hF⟩ := hok hv
    obtain ⟨hp, hl⟩ := verd_ok_len hv
    have F1 := hF.keeps ((Keeps.refl (fun _ => False) w1).alloc (.cells (wrV (verd p).1 (verd p).2) 40)) (fun f => f)
    have HV : Hid ((verd p).2 = 0) := hv
    rw [hv] at K1 F1 ⊢
    generalize (verd p).1 = a at *
    unfold wrV at K1 F1 ⊢
    clear hok hno hF LA hv
    obtain ⟨w2, hw2⟩ : ∃ W, W = w1.alloc (.cells #[.int .i64 a, .int .i64 0] 40) := ⟨_, rfl⟩
    have hmk := run_modes w2 p.length (by omega)
    have e2 : w2.heap.size = w1.heap.size + 1 := by rw [hw2]; simp
    rw [e2, hw2] at hmk
    have K2 := K1.alloc (.cells (mds p.length fun _ => 0) 70)
    have F2 := F1.keeps ((Keeps.refl (fun _ => False) _).alloc (.cells (mds p.length fun _ => 0) 70)) (fun f => f)
    have lf := F1.lt
    have hsz := k1.size
    simp at lf
    have B2 := heap_alloc2_new w1 (.cells #[.int .i64 a, .int .i64 0] 40) (.cells (mds p.length fun _ => 0) 70)
    clear hw2 K1 F1
    go_wp2_with fail
    generalize hg : w1.heap.size + 1 = g at *
    have hgw : w.heap.size ≤ g := by omega
    have hfg : f ≠ g := by omega
    clear hmk k1
    go_loopw [24] (fun m wr => ∃ k : Nat, m = .int .i64 k ∧ k ≤ p.length ∧ Hid (Keeps (fun _ => False) w wr ∧ Fnd wr f p.length (reachB p) ∧ wr.heap[g]? = some (.cells (mds p.length fun j => if j < k then modeN p j else 0) 70 (0, 0)))) (fun m _ => p.length - (intOf m).toNat)
    case atStart => exact ⟨0, rfl, Nat.zero_le _, ⟨K2, F2, by rw [B2]; congr 2⟩⟩
    case round =>
      clear K2 F2 B2
      obtain ⟨k, rfl, hkl, hh⟩ := hrel
      obtain ⟨hK, hF, hB⟩ := hh.out
      by_cases hlt : k < p.length
      · have hki : (k : Int) < p.length := by omega
        obtain ⟨c0, c1⟩ := hF.cell hlt
        have hmn : modeN p k = modeB (reachB p k false) (reachB p k true) := rfl
        generalize reachB p k false = x at *
        generalize reachB p k true = y at *
        have cW := cell_of_block hB k
        rw [mds_at hlt] at cW
        have fW := frozen_of_block hB k
        have bS := block_set hB k (.int .i64 (modeB x y))
        rw [mds_set] at bS
        have eS : mds p.length (fun j => if j = k then modeB x y else if j < k then modeN p j else 0) = mds p.length fun j => if j < k + 1 then modeN p j else 0 := by
          apply mds_congr
          intro j _
          by_cases hj : j = k
          · subst hj; rw [if_pos rfl, if_pos (by omega), hmn]
          · rw [if_neg hj]
            by_cases hj2 : j < k
            · rw [if_pos hj2, if_pos (by omega)]
            · rw [if_neg hj2, if_neg (by omega)]
        rw [eS] at bS
        have KS := hK.setCell (p := ⟨g, k, none⟩) (.inl hgw) (.int .i64 (modeB x y))
        have FS : Fnd (wr.setCell ⟨g, k, none⟩ (.int .i64 (modeB x y))) f p.length (reachB p) := by
          obtain ⟨c, q1, q2, q3⟩ := hF
          exact ⟨c, (heap_setCell_other _ _ _ _ hfg).trans q1, q2, q3⟩
        have kW : Keeps (fun _ => False) (wr.setCell ⟨g, k, none⟩ (.int .i64 (modeB x y))) (((wr.setCell ⟨g, k, none⟩ (.int .i64 (modeB x y))).alloc (.cells #[.bool x, .bool y] 76)).alloc (.cells #[.bool x, .bool y] 76)) := ((Keeps.refl _ _).alloc _).alloc _
        have HB : Hid (_ ∧ _ ∧ _) := ⟨KS.trans kW, FS.keeps kW (fun f => f), (kW.block _ (lt_of_block bS) (fun f => f)).trans bS⟩
        have lf := hF.lt
        have lg := lt_of_block hB
        have MA := mode_any x y
        clear hh hK hF hB kW bS eS KS FS hmn
        go_wp2_with fail
        refine (MA _).mono ?_
        rintro e w3 ⟨rfl, rfl⟩
        go_wp2_with fail
        go_roundw
        · exact ⟨k + 1, by simp, by omega, HB.out⟩
        · simp [intOf]; omega
      · have hki : ¬ (k : Int) < p.length := by omega
        obtain rfl : k = p.length := by omega
        clear hh
        go_wp2_with fail
        go_ret2
        unfold MPost
        rw [HV.out]
        refine ⟨_, rfl, hK, fun _ => ⟨g, rfl, hgw, ?_⟩, fun h => absurd rfl h⟩
        rw [hB, mds_congr (g := modeN p) fun j hj => by rw [if_pos hj]]
  · obtain rfl := hno hv
    have HV : Hid ((verd p).2 ≠ 0) := hv
    have hne : ∀ q, MPost p w (.returned (.tuple #[.slice none 0 0, .int .i64 (verd p).2])) ((w1.alloc (.cells (wrV (verd p).1 (verd p).2) 40)).drewN q) := fun q => ⟨_, rfl, K1.drewN q, fun h => absurd h HV.out, fun _ => rfl⟩
    generalize (verd p).2 = b at *
    generalize (verd p).1 = a at *
    unfold wrV at hne ⊢
    have HN : Hid (_) := hne
    clear hok hno LA hne K1
    go_wp2_with fail
    go_quiet (fail)
    go_wp2_with fail
    go_ret2
    exact HN.out _

/-- What Followers answers. -/
def EPost (p : List I5) (a : Int) (w : World) (e : Ending) (w' : World) : Prop := Keeps (fun _ => False) w w' ∧ ((0 ≤ a ∧ a < p.length) → ∃ v, e = .returned (.tuple #[v, .int .i64 0]) ∧ Its w' w.heap.size v ((folL (at5 p a.toNat) a.toNat).map fun (n : Nat) => (n : Int))) ∧ (¬ (0 ≤ a ∧ a < p.length) → e = .returned (.tuple #[.slice none 0 0, .int .i64 2]))
set_option maxRecDepth 100000 in
theorem followers_any (v : Value) (p : List I5) (a : Int) (w : World) (h : InsAt w v p) : Calls Tryd.prog 24 #[v, .int .i64 a] w (EPost p a w) := by
  obtain ⟨⟨av, cap, rfl, hc⟩, hwf, hbig⟩ := h
  by_cases ha : 0 ≤ a ∧ a < p.length
  · obtain ⟨k, rfl⟩ : ∃ k : Nat, a = (k : Int) := ⟨a.toNat, by omega⟩
    have hlt : k < p.length := by omega
    obtain ⟨pg, po, rfl, d0, d1, d2, d3, d4⟩ := hc k hlt
    have h5 : p[k]'hlt = at5 p k := by simp [at5, hlt]
    have hw5 := hwf _ (List.getElem_mem hlt)
    rw [h5] at d0 d1 d2 d3 d4 hw5
    have FL := follow_any (at5 p k) hw5 k (by omega)
    have h1 : ¬ (k : Int) < 0 := by omega
    have h2 : ¬ (k : Int) ≥ p.length := by omega
    have h3 : (k : Int) < p.length := by omega
    have hpost : Hid (∀ e w', FPost (at5 p k) k w e w' → ∃ u, e = .returned u ∧ EPost p (k : Int) w (.returned (.tuple #[u, .int .i64 0])) w') := fun e w' ⟨u, hu, hi, hk⟩ => ⟨u, hu, hk, fun _ => ⟨u, rfl, by simpa using hi⟩, fun hn => absurd ha hn⟩
    clear hc h5
    generalize at5 p k = i at *
    obtain ⟨op, ia, ib, ic, n⟩ := i
    dsimp only at d0 d1 d2 d3 d4
    go_enter Tryd.func24, Tryd.ntmps24
    go_wp2_with fail
    refine (FL _).mono ?_
    intro e w1 hF
    obtain ⟨u, rfl, hE⟩ := hpost.out e w1 hF
    go_wp2_with fail
    go_ret2
    exact hE
  · have hE : EPost p a w (.returned (.tuple #[.slice none 0 0, .int .i64 2])) w := ⟨Keeps.refl _ _, fun h => absurd h ha, fun _ => rfl⟩
    clear hc
    by_cases h1 : a < 0
    · go_enter Tryd.func24, Tryd.ntmps24
      go_wp2_with fail
      go_ret2
      exact hE
    · have h2 : a ≥ p.length := by omega
      go_enter Tryd.func24, Tryd.ntmps24
      go_wp2_with fail
      go_ret2
      exact hE
end Go.Proofs.YtljapgoeomedkaaDoor
