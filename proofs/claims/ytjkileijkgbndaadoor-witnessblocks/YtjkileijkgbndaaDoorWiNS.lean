/-
  No statement of the seat is proved here. (Several texts in one: WiN, WiO, WiQ, WiR, WiS.)
-/
import Derived.Test.YtjkileijkgbndaaDoorWiG
import Derived.Test.YtjkileijkgbndaaDoorLayG
import Derived.Sort.OwnSortedInts
import Derived.Lib.OwnBridge
import Derived.Test.YtjkileijkgbndaaDoorWiM
import Derived.Deep.QuietTactic
import Derived.BigQuiet
import Derived.Test.YtjkileijkgbndaaDoorWiK

/- The library's sort by the closure. No statement of the seat is proved here. -/
namespace Go.Proofs.YtjkileijkgbndaaDoor
open Go.RowKit Go.Shelf Go.Sort

@[reducible] def ciC (x : Int) : List Value := [.int .i64 x]
theorem cic_len (x : Int) : (ciC x).length = 1 := rfl
theorem cic_ne (x : Int) : ciC x ≠ [] := by simp
theorem cic_one (x : Int) : ∀ u ∈ ciC x, u.oneCell' = true := by simp [Value.oneCell']
theorem info_intW : (Tryd.prog.info? 3).map (fun i => (i.zero, i.size, i.bytes)) = some (some (.int .i64 0), 1, 8) := by kernel_rfl
theorem flat_ci (L : List Int) : flatV ciC L = L.map (Value.int .i64) := by
  induction L with
  | nil => rfl
  | cons x L ih =>
    have : flatV ciC (x :: L) = ciC x ++ flatV ciC L := rfl
    rw [this, ih]; rfl
abbrev InR (w : World) (base : Nat) (v : Value) (L : List Int) : Prop := OwnR ciC 1 3 w base v L
def natI (L : List Nat) : List Int := L.map fun (i : Nat) => (i : Int)
/-- What the closure reads. -/
structure ClAt (w : World) (B rb g N cap : Nat) (l : List Pt) : Prop where
  cB : w.cell? ⟨B, 0, none⟩ = some (.pointer (some ⟨rb, 0, none⟩))
  cr : w.cell? ⟨rb, 0, none⟩ = some (.slice (some ⟨g, 0, none⟩) N cap)
  nu : ∀ i, i < N → w.cell? ⟨g, i * 11 + 4, none⟩ = some (.int .u64 (at0 l i).nu)
  wr : ∀ i, i < N → w.cell? ⟨g, i * 11 + 5, none⟩ = some (.bool (at0 l i).wr)
  si : ∀ i, i < N → w.cell? ⟨g, i * 11 + 9, none⟩ = some (.int .i64 (at0 l i).si)
theorem cell_heap {w w' : World} {b o : Nat} (h : w'.heap[b]? = w.heap[b]?) {v : Value} (hc : w.cell? ⟨b, o, none⟩ = some v) : w'.cell? ⟨b, o, none⟩ = some v := by
  rw [← hc]; simp only [World.cell?, h]
theorem ClAt.of {w w' : World} {B rb g N cap : Nat} {l : List Pt} (h : ClAt w B rb g N cap l) (h1 : w'.heap[B]? = w.heap[B]?) (h2 : w'.heap[rb]? = w.heap[rb]?) (h3 : w'.heap[g]? = w.heap[g]?) : ClAt w' B rb g N cap l :=
  ⟨cell_heap h1 h.cB, cell_heap h2 h.cr, fun i hi => cell_heap h3 (h.nu i hi), fun i hi => cell_heap h3 (h.wr i hi), fun i hi => cell_heap h3 (h.si i hi)⟩
section
variable {α : Type} [Inhabited α]
theorem sortW_heap (enc : α → Value) (w : World) (blk off m : Nat) (d : Array α) (os : Array Obj) {q : Nat} (hq : q < w.heap.size) (hne : q ≠ blk) : (sortWorld enc w blk off m d os).heap[q]? = w.heap[q]? := by
  unfold sortWorld
  rw [heap_grow_old _ _ (by simpa [putRow, mapBlock, Sort.ahead] using hq)]
  have : blk ≠ q := fun e => hne e.symm
  simp [putRow, mapBlock, Sort.ahead, Array.getElem?_modify, this]
theorem putRow_map (f : α → Int) (w : World) (blk off : Nat) (d : Array α) : putRow (fun x => Value.int .i64 (f x)) w blk off d = putRow (Value.int .i64) w blk off (d.map f) := by
  unfold putRow
  congr 1
  funext c
  unfold putCells
  congr 1
  funext k x
  simp only [Array.size_map]
  split
  · rename_i h
    rw [getElem!_pos _ _ (by omega), getElem!_pos _ _ (by rw [Array.size_map]; omega), Array.getElem_map]
  · rfl
end
theorem sortf_any {w : World} {base B rb g N cap : Nat} {v : Value} {l : List Pt} (E : List Nat) (hE : ∀ i ∈ E, i < N) (hN : N = l.length) (hD : Dist l) (hl : E.length < 4611686018427387904) (h : InR w base v (natI E)) (hC : ClAt w B rb g N cap l) (h1 : B < base) (h2 : rb < base) (h3 : g < base) :
    Calls Tryd.prog 29 #[v, .func (.func 30) #[] #[.pointer (some ⟨B, 0, none⟩)]] w fun e w' => e = .returned (.tuple #[]) ∧ InR w' base v (natI (E.mergeSort fun x y => !befI l y x)) ∧ Grew w w' v v := by
  by_cases hL : E = []
  · subst hL
    obtain ⟨b, cp, rfl⟩ := h.form
    refine (AnyF.slices_SortFunc_none (P := Tryd.prog) (ρ := laysF6_ren) { laysF6 with } b cp _ w).mono fun e w' ⟨h1, h2⟩ => ?_
    subst h2
    exact ⟨h1, by simpa using h, Grew.refl _ _⟩
  · obtain ⟨i0, hi0⟩ : ∃ i, i ∈ E := by
      cases E with
      | nil => exact absurd rfl hL
      | cons i E => exact ⟨i, by simp⟩
    have hN0 : 0 < N := Nat.lt_of_le_of_lt (Nat.zero_le _) (hE i0 hi0)
    haveI : Inhabited (Fin N) := ⟨⟨0, hN0⟩⟩
    obtain ⟨zs, hzs⟩ : ∃ zs : List (Fin N), zs.map (fun x => x.val) = E := ⟨E.pmap (fun i hi => (⟨i, hi⟩ : Fin N)) hE, by
      rw [List.map_pmap]; simp⟩
    have henc : (natI E).map (Value.int .i64) = zs.map fun x => Value.int .i64 ((x.val : Nat) : Int) := by
      rw [← hzs]; simp [natI]
    have hzl : zs.length = E.length := by rw [← hzs]; simp
    have hv : v ≠ .slice none 0 0 := fun e => by
      rcases h.own.2 with ⟨_, h2⟩ | ⟨g, cap, cur, hv, _⟩
      · exact hL (List.length_eq_zero_iff.1 (by simpa [natI] using h2))
      · rw [e] at hv; cases hv
    have hown := h.own
    rw [flat_ci, henc] at hown
    obtain ⟨g', cap', rfl, hbg, hgl, hnc, hcm, hlen, hH⟩ := Lib.holds_of_ownsRow hown hv
    have lt_bef : ∀ x y : Fin N, ltOf (fun a b : Fin N => cfP (at0 l a.val) (at0 l b.val)) x y = befI l x.val y.val := fun x y => by
      unfold ltOf befI; exact cfP_lt _ _
    have hO : SWO (ltOf (fun a b : Fin N => cfP (at0 l a.val) (at0 l b.val))) := by
      refine ⟨fun x => ?_, fun x y z p q => ?_, fun x y z p q => ?_⟩
      · rw [lt_bef]; unfold befI; rw [bef_no]; omega
      · rw [lt_bef] at *; unfold befI at *; rw [bef_iff] at *; omega
      · rw [lt_bef] at *; unfold befI at *; rw [bef_no] at *; omega
    have hT : ∀ x y : Fin N, ltOf (fun a b : Fin N => cfP (at0 l a.val) (at0 l b.val)) x y = false → ltOf (fun a b : Fin N => cfP (at0 l a.val) (at0 l b.val)) y x = false → x = y := fun x y p q => by
      rw [lt_bef] at p q
      unfold befI at p q
      rw [bef_no] at p q
      exact Fin.ext (dist_at hD (by have := x.isLt; omega) (by have := y.isLt; omega) (by omega))
    have eg : ∀ args w, (callFunc 30 args).run Tryd.prog w = .ok (.enter 30 args) w := enters_of Tryd.func30 (by kernel_rfl) rfl
    have hn : (natI E).length = zs.toArray.size := by simp [natI, hzl]
    have hcmp : CmpLays1 Tryd.prog 30 #[.pointer (some ⟨B, 0, none⟩)] (fun x : Fin N => Value.int .i64 ((x.val : Nat) : Int)) (fun a b : Fin N => cfP (at0 l a.val) (at0 l b.val)) g' 0 zs.toArray.size w := fun m os dk hs x y => by
      have hB := World.block_lt_of_cell? _ _ hC.cB
      have hR := World.block_lt_of_cell? _ _ hC.cr
      have hG := World.block_lt_of_cell? _ _ (hC.nu 0 hN0)
      have hC' := hC.of (w' := sortWorld (fun x : Fin N => Value.int .i64 ((x.val : Nat) : Int)) w g' 0 m dk os) (sortW_heap _ _ _ _ _ _ _ hB (by omega)) (sortW_heap _ _ _ _ _ _ _ hR (by omega)) (sortW_heap _ _ _ _ _ _ _ hG (by omega))
      exact closure_any B rb g N cap x.val y.val (at0 l x.val) (at0 l y.val) _ x.isLt y.isLt hC'.cB hC'.cr (hC'.nu _ x.isLt) (hC'.wr _ x.isLt) (hC'.si _ x.isLt) (hC'.nu _ y.isLt) (hC'.wr _ y.isLt) (hC'.si _ y.isLt)
    have hsz : zs.toArray.size = (natI E).length := hn.symm
    rw [hn]
    refine (Any.slices_SortFunc_total laysF6 (fun x : Fin N => Value.int .i64 ((x.val : Nat) : Int)) (fun _ => rfl) _ hO 30 #[.pointer (some ⟨B, 0, none⟩)] g' 0 cap' zs.toArray w eg hcmp hH hgl (by simp; omega) hT).mono fun e w' ⟨h1, nn, os, h2⟩ => ?_
    have hms : (zs.mergeSort fun x y => !(ltOf (fun a b : Fin N => cfP (at0 l a.val) (at0 l b.val))) y x).map (fun x => x.val) = E.mergeSort fun x y => !befI l y x := by
      rw [List.map_mergeSort (s := fun x y => !befI l y x) (f := fun x : Fin N => x.val) (fun a _ b _ => by rw [lt_bef]), hzs]
    have hpr : w' = grow (putRow (Value.int .i64) (Sort.ahead w nn) g' 0 (natI (E.mergeSort fun x y => !befI l y x)).toArray) os := by
      rw [h2]
      unfold sortWorld
      rw [putRow_map (fun x : Fin N => ((x.val : Nat) : Int))]
      congr 2
      rw [← hms]
      simp [natI]
    rcases h.own.2 with ⟨h0, _⟩ | ⟨g2, cap2, cur, hv', hbase, hb, q1, q2, q3, q4⟩
    · exact absurd h0 hv
    have hv2 := hv'
    simp only [Value.slice.injEq, Option.some.injEq, Addr.mk.injEq, and_true] at hv2
    obtain ⟨rfl, -, rfl⟩ := hv2
    have hll : (natI (E.mergeSort fun x y => !befI l y x)).length = (natI E).length := by simp [natI]
    have hs := ownsRow_sortedI (n := nn) (os := os) (ts := natI (E.mergeSort fun x y => !befI l y x)) (ss := natI E) hll hbase hb q1 q2 q3
    have hg := grownBy_sortedI (w := w) (g := g') (n := nn) (os := os) (natI (E.mergeSort fun x y => !befI l y x)).toArray
    rw [← hpr] at hs hg
    refine ⟨h1, ⟨?_, Nat.le_trans h.base hg.size⟩, ⟨(Keeps.refl _ _).grown hg fun k hk => .inr hk, .inl rfl⟩⟩
    rw [flat_ci, hll]
    rw [hn] at hs
    rw [hn]
    exact hs
end Go.Proofs.YtjkileijkgbndaaDoor


/- Walks of order, Order, Ahead (package witness). No statement of the seat is proved here. -/
namespace Go.Proofs.YtjkileijkgbndaaDoor
open Go.RowKit Go.Shelf

/-- The blocks that are over, up to a number. -/
def selK (l : List Pt) (k : Nat) : List Nat := (List.range k).filter fun i => overB (at0 l i)
theorem selK_succ (l : List Pt) (k : Nat) : selK l (k + 1) = selK l k ++ if overB (at0 l k) = true then [k] else [] := by
  unfold selK
  rw [List.range_succ, List.filter_append]
  congr 1
  split <;> simp [*]
theorem selK_len (l : List Pt) (k : Nat) : (selK l k).length ≤ k := by
  unfold selK
  exact Nat.le_trans (List.length_filter_le _ _) (by simp)
theorem sortf_nil {w : World} {base : Nat} {v : Value} (fv : Value) (h : InR w base v (natI [])) : Calls Tryd.prog 29 #[v, fv] w fun e w' => e = .returned (.tuple #[]) ∧ w' = w := by
  obtain ⟨b, cp, rfl⟩ := h.form
  exact AnyF.slices_SortFunc_none (P := Tryd.prog) (ρ := laysF6_ren) { laysF6 with } b cp fv w
set_option maxRecDepth 100000 in
set_option maxHeartbeats 8000000 in
theorem rorder_any (rb mb bs : Nat) (v : Value) (pl : Bool) (X : List Bx) (w : World) (bR : w.heap[rb]? = some (.cells #[v, .map (some mb), .bool pl] 60 (0, 0))) (PR : Prs w bs v X) (hX : X.length ≤ 60000) (hD : Dist (X.map (·.p))) :
    Calls Tryd.prog 18 #[.pointer (some ⟨rb, 0, none⟩)] w fun ex w' => ∃ u, ex = .returned u ∧ InR w' w.heap.size u (natI (ordK (X.map (·.p)) X.length)) ∧ Keeps (fun _ => False) w w' := by
  have hat : ∀ k (hk : k < X.length), at0 (X.map (·.p)) k = (X[k]).p := fun k hk => by simp [at0, hk]
  have hll : (X.map (·.p)).length = X.length := by simp
  generalize hl : X.map (·.p) = l at *
  obtain ⟨pa, pc, rfl⟩ := PR.own.form
  have hrl := lt_of_block bR
  have k0 := (Keeps.refl (fun _ => False) w).alloc (.cells #[.pointer (some ⟨rb, 0, none⟩)] 54)
  have b0 := (MapKept.heap_alloc w (.cells #[.pointer (some ⟨rb, 0, none⟩)] 54)).1
  have hs0 : (w.alloc (.cells #[.pointer (some ⟨rb, 0, none⟩)] 54)).heap.size = w.heap.size + 1 := by simp
  have O0 : InR (w.alloc (.cells #[.pointer (some ⟨rb, 0, none⟩)] 54)) (w.heap.size + 1) (.slice none 0 0) [] := OwnR.nilB _ _ _ _ _ (by omega)
  have HC : Hid (∀ W, Keeps (fun _ => False) w W → W.heap[rb]? = some (.cells #[.slice pa X.length pc, .map (some mb), .bool pl] 60 (0, 0)) ∧ ElsAt Bx.cp 11 W (.slice pa X.length pc) X) := fun W k => ⟨(k.block _ hrl (fun f => f)).trans bR, (PR.own.els cp_len).keeps cp_ne k⟩
  have HG : Hid (∀ g, (Value.slice pa X.length pc).ownBlock = some g → g < w.heap.size) := fun g hg => (own_block PR.own.own hg).1
  have HW : Hid (∀ g, pa = some g → ∃ q, g = ⟨q, 0, none⟩) := fun g hg => by
    rcases PR.own.own.2 with ⟨h, _⟩ | ⟨g', cap', cur, h, _⟩
    · simp only [Value.slice.injEq] at h
      rw [h.1] at hg; cases hg
    · simp only [Value.slice.injEq] at h
      rw [h.1] at hg; cases hg; exact ⟨g', rfl⟩
  have cr0 : (w.alloc (.cells #[.pointer (some ⟨rb, 0, none⟩)] 54)).cell? ⟨rb, 0, none⟩ = some (.slice pa X.length pc) := by
    rw [cell_of_block ((k0.block _ hrl (fun f => f)).trans bR)]; rfl
  have hne : ¬ rb = w.heap.size := by omega
  have HS : Hid ((w.alloc (.cells #[.pointer (some ⟨rb, 0, none⟩)] 54)).heap.size = w.heap.size + 1) := hs0
  clear bR PR hs0
  go_enter Tryd.func18, Tryd.ntmps18
  go_wp2_with fail
  generalize w.alloc (.cells #[.pointer (some ⟨rb, 0, none⟩)] 54) = V at *
  have HK : Hid (Keeps (fun _ => False) w V ∧ V.heap[w.heap.size]? = some (.cells #[.pointer (some ⟨rb, 0, none⟩)] 54 (0, 0))) := ⟨k0, b0⟩
  clear k0 b0 cr0
  go_loopw [3, 10] (fun u3 u wr => ∃ (k : Nat), u = .int .i64 k ∧ k ≤ X.length ∧ InR wr (w.heap.size + 1) u3 (natI (selK l k)) ∧ Keeps (fun _ => False) V wr) (fun _ u _ => X.length - (intOf u).toNat)
  case atStart => exact ⟨0, rfl, Nat.zero_le _, O0, Keeps.refl _ _⟩
  case round =>
    clear O0
    obtain ⟨k, rfl, hk, hO, kr⟩ := hrel
    have kw := HK.out.1.trans kr
    have bx := (kr.block _ (lt_of_block HK.out.2) (fun f => f)).trans HK.out.2
    have rbk := (HC.out wr kw).1
    have cB : wr.cell? ⟨w.heap.size, 0, none⟩ = some (.pointer (some ⟨rb, 0, none⟩)) := by rw [cell_of_block bx]; rfl
    have cr : wr.cell? ⟨rb, 0, none⟩ = some (.slice pa X.length pc) := by rw [cell_of_block rbk]; rfl
    by_cases hlt : k < X.length
    · have hki : (k : Int) < X.length := by omega
      have hk0 : (0 : Int) ≤ k := by omega
      obtain ⟨g, off, rfl, hc⟩ := (HC.out wr kw).2.at k hlt
      obtain ⟨gg, hgg⟩ := HW.out _ rfl
      simp only [Addr.mk.injEq, and_true] at hgg
      obtain ⟨-, rfl⟩ := hgg
      have c1 := hc 1 _ rfl
      simp only [Nat.zero_add] at c1
      rw [← hat k hlt] at c1
      have OV := over_any g (k * 11) (at0 l k) wr c1
      have hsl := selK_succ l k
      have hln := selK_len l k
      obtain ⟨ub, uc, rfl⟩ := hO.form
      cases hov : overB (at0 l k) with
      | false =>
        rw [hov] at OV hsl
        have HF : Hid (InR wr (w.heap.size + 1) (.slice ub (natI (selK l k)).length uc) (natI (selK l (k + 1)))) := by
          rw [hsl]; unfold Hid; simpa using hO
        clear hsl hO hc c1 rbk bx
        go_wp2_with fail
        refine OV.mono ?_
        rintro ex w' ⟨rfl, rfl⟩
        clear OV
        go_wp2_with fail
        go_roundw
        · exact ⟨k + 1, by simp, by omega, HF.out, kr⟩
        · simp [intOf]; omega
      | true =>
        rw [hov] at OV hsl
        obtain ⟨v', w3, r1, r2, r3⟩ := hO.push cic_len cic_one (by decide) Tryd.underlying31 info_intW rfl (by decide) (ty := 31) (k : Int) (cs := #[.int .i64 (k : Int)]) rfl (by simp [natI]; omega)
        have he : natI (selK l k) ++ [(k : Int)] = natI (selK l (k + 1)) := by rw [hsl]; simp [natI]
        rw [he] at r2
        have K3 : Keeps (fun _ => False) V w3 := ⟨r3.keeps.os.trans kr.os, r3.keeps.tape.trans kr.tape, r3.keeps.output.trans kr.output, Nat.le_trans kr.size r3.keeps.size, fun q hq hs => (r3.keeps.block q (Nat.lt_of_lt_of_le hq kr.size) fun e => by
          have h1 := (own_block hO.own e).2
          have h2 := HS.out
          omega).trans (kr.block q hq hs)⟩
        obtain ⟨⟨ya, yn, yc⟩, rfl, -⟩ := sl_of r2
        have HA : Hid (_ = _) := r1
        have HF : Hid (InR w3 (w.heap.size + 1) (.slice ya yn yc) (natI (selK l (k + 1))) ∧ Keeps (fun _ => False) V w3) := ⟨r2, K3⟩
        generalize (natI (selK l k)).length = n3 at *
        clear hsl hO hc c1 rbk bx r1 r2 r3 he K3 hln
        go_wp2_with fail
        refine OV.mono ?_
        rintro ex w' ⟨rfl, rfl⟩
        clear OV
        go_wp2_with (at_builtin; refine wpList_append_run rfl _ _ 31 rfl rfl rfl HA.out ?_)
        go_roundw
        · exact ⟨k + 1, by simp, by omega, HF.out⟩
        · simp [intOf]; omega
    · obtain rfl : k = X.length := by omega
      obtain ⟨ub, uc, rfl⟩ := hO.form
      by_cases hX0 : X.length = 0
      · have hs0 : selK l X.length = [] := by rw [hX0]; rfl
        have ho0 : ordK l X.length = [] := by rw [hX0]; rfl
        rw [hs0] at hO ⊢
        have SN := sortf_nil (.func (.func 30) #[] #[.pointer (some ⟨w.heap.size, 0, none⟩)]) hO
        have HF : Hid (InR wr w.heap.size (.slice ub (natI []).length uc) (natI (ordK l X.length)) ∧ Keeps (fun _ => False) w wr) := by rw [ho0]; exact ⟨hO.low (by omega), kw⟩
        clear hO rbk bx hs0 ho0
        go_wp2_with fail
        refine SN.mono ?_
        rintro ex w' ⟨rfl, rfl⟩
        clear SN
        go_wp2_with fail
        go_ret
        exact ⟨_, rfl, HF.out⟩
      · obtain ⟨g, off, rfl, hc0⟩ := (HC.out wr kw).2.at 0 (by omega)
        obtain ⟨gg, hgg⟩ := HW.out _ rfl
        simp only [Addr.mk.injEq, and_true] at hgg
        obtain ⟨-, rfl⟩ := hgg
        have hcl : ClAt wr w.heap.size rb g X.length pc l := by
          have hcell : ∀ (f i : Nat) (hi : i < X.length) (x : Value), (Bx.cp (X[i]))[f]? = some x → wr.cell? ⟨g, i * 11 + f, none⟩ = some x := fun f i hi x hx => by
            obtain ⟨g', off', hgo, q⟩ := (HC.out wr kw).2.at i hi
            simp only [Option.some.injEq, Addr.mk.injEq, and_true] at hgo
            obtain ⟨rfl, rfl⟩ := hgo
            have := q f x hx
            simpa using this
          exact ⟨cB, cr, fun i hi => by rw [hat i hi]; exact hcell 4 i hi _ rfl, fun i hi => by rw [hat i hi]; exact hcell 5 i hi _ rfl, fun i hi => by rw [hat i hi]; exact hcell 9 i hi _ rfl⟩
        have hgw := HG.out g rfl
        have SF := sortf_any (selK l X.length) (fun i hi => by unfold selK at hi; simp at hi; exact hi.1) hll.symm hD (by have := selK_len l X.length; omega) hO hcl (by omega) (by omega) (by omega)
        rw [ord_merge hD (selK l X.length) (by unfold selK; rw [hll]), hll] at SF
        have HO : Hid (InR wr (w.heap.size + 1) (.slice ub (natI (selK l X.length)).length uc) (natI (selK l X.length))) := hO
        generalize (natI (selK l X.length)).length = n3 at *
        clear hO hcl rbk bx hc0
        go_wp2_with fail
        refine SF.mono ?_
        rintro ex w' ⟨rfl, hI, gr⟩
        have HF : Hid (InR w' w.heap.size (.slice ub n3 uc) (natI (ordK l X.length)) ∧ Keeps (fun _ => False) w w') := ⟨hI.low (by omega), kw.young gr.keeps fun q e => by have := (own_block HO.out.own e).2; omega⟩
        clear SF hI gr
        go_wp2_with fail
        go_ret
        exact ⟨_, rfl, HF.out⟩
set_option maxRecDepth 100000 in
set_option maxHeartbeats 8000000 in
theorem worder_any (v : Value) (L : List Ev) (hL : L.length ≤ 60000) (hz : (checkL L).2 = 0) (w : World) (hv : EvsAt w v L) (hg : Gv w) (h8 : 2 ≤ w.heap.size) : Calls Tryd.prog 9 #[v] w fun ex w' => ∃ u, ex = .returned (.tuple #[u, .int .i64 0]) ∧ InR w' w.heap.size u (natI (ordK (partsL L) (partsL L).length)) ∧ Keeps (fun _ => False) w w' := by
  have GA := gather_any v L hL hz w hv hg h8
  have hP := pinv_parts L
  obtain ⟨a, cap, rfl, hcap⟩ := hv.els.shape
  clear hv hg hz
  go_enter Tryd.func9, Tryd.ntmps9
  go_wp2_with fail
  refine GA.mono ?_
  rintro ex w1 ⟨rb, mb, bs, pv, pl, X, rfl, hrw, hrb, bR, PR, hX, k1⟩
  clear GA
  have hXl : X.length = (partsL L).length := by rw [← hX]; simp
  have hPl : (partsL L).length ≤ L.length := hP.len
  have RO := rorder_any rb mb bs pv pl X w1 bR PR (by omega) (by rw [hX]; exact hP.dist)
  rw [hX, hXl] at RO
  have hs := k1.size
  clear PR hX hXl hP hPl bR
  go_wp2_with fail
  refine RO.mono ?_
  rintro ex w2 ⟨u, rfl, hI, k2⟩
  obtain ⟨ub, uc, rfl⟩ := hI.form
  have HF : Hid (InR w2 w.heap.size _ (natI (ordK (partsL L) (partsL L).length)) ∧ Keeps (fun _ => False) w w2) := ⟨hI.low hs, k1.trans k2⟩
  clear RO hI k2 k1 hs
  go_wp2_with fail
  go_ret2
  exact ⟨_, rfl, HF.out⟩
end Go.Proofs.YtjkileijkgbndaaDoor


/- A walk of the document's Blocks (package parleyref15). No statement of the seat is proved here. -/
namespace Go.Proofs.YtjkileijkgbndaaDoor
open Go.RowKit Go.Shelf

/-- A list of blocks, and where their last Begins or Moveds stand. -/
structure Bk2 (w : World) (base : Nat) (v u : Value) (X : List Bx) : Prop where
  bl : Bls w base v X
  lk : InR w base u (X.map (·.p.si))
  a1 : ∀ q, u.ownBlock = some q → v.ownBlock ≠ some q
  a2 : ∀ q, u.ownBlock = some q → q ∉ ows X
theorem Bk2.keeps {w w' : World} {base : Nat} {v u : Value} {X : List Bx} (h : Bk2 w base v u X) (k : Keeps (fun _ => False) w w') : Bk2 w' base v u X :=
  ⟨h.bl.keeps k (fun _ _ _ f => f), h.lk.keeps k (fun _ _ f => f), h.a1, h.a2⟩
/-- One more. -/
theorem Bk2.push {w w1 W : World} {base : Nat} {v u : Value} {X : List Bx} (h : Bk2 w base v u X) {x : Bx} (k : Keeps (fun _ => False) w w1) (hx : Rws w1 w.heap.size [x]) (kW : Keeps (fun _ => False) w1 W) (hl : X.length ≤ 60000) (ty1 ty2 : TypeId) :
    ∃ v' w2 u' w3, (Builtin.append_ #[27, 27] ty1 #[v, .slice (some ⟨W.heap.size, 0, none⟩) 1 1]).run Tryd.prog (W.alloc (.cells x.cb.toArray 43)) = .ok v' w2 ∧
      (Builtin.append_ #[31, 31] ty2 #[u, .slice (some ⟨w2.heap.size, 0, none⟩) 1 1]).run Tryd.prog (w2.alloc (.cells #[.int .i64 x.p.si] 3)) = .ok u' w3 ∧ Bk2 w3 base v' u' (X ++ [x]) ∧ Keeps (fun q => base ≤ q) w w3 := by
  have hW := (h.keeps k).keeps kW
  have hxW := hx.keeps kW (fun _ _ f => f)
  have hbs := h.bl.own.base
  obtain ⟨v', w2, r1, r2, r3⟩ := hW.bl.own.push cb_len cb_one (by decide) Tryd.underlying27 info_blk rfl (by decide) (ty := ty1) x (cs := x.cb.toArray) rfl (by omega)
  have hA := hW.bl.rws.add hxW hbs (fun q hq => (h.bl.rws.young hq).1)
  have hap : ∀ q, v.ownBlock = some q → q ∉ ows (X ++ [x]) := fun q hq hc => by
    rw [ows_append] at hc
    rcases List.mem_append.1 hc with hc | hc
    · exact h.bl.ap q hq hc
    · have h1 := (hx.young hc).2
      have h2 := (own_block h.bl.own.own hq).1
      omega
  have B2 : Bls w2 base v' (X ++ [x]) := RwL.grew r2 r3 hA hap
  have I2 := hW.lk.keeps r3.keeps (fun q hq e => h.a1 q hq e)
  obtain ⟨u', w3, s1, s2, s3⟩ := I2.push cic_len cic_one (by decide) Tryd.underlying31 info_intW rfl (by decide) (ty := ty2) x.p.si (cs := #[.int .i64 x.p.si]) rfl (by simp; omega)
  have huw : ∀ q, u.ownBlock = some q → q < w.heap.size := fun q hq => (own_block h.lk.own hq).1
  have hkW : w.heap.size ≤ W.heap.size := Nat.le_trans k.size kW.size
  have uv : ∀ q, u.ownBlock = some q → v'.ownBlock ≠ some q := fun q hq e => by
    rcases r3.own with o | o
    · exact h.a1 q hq (o ▸ e)
    · have h1 := o q e
      have h2 := huw q hq
      omega
  have ux : ∀ q, u.ownBlock = some q → q ∉ ows (X ++ [x]) := fun q hq hc => by
    rw [ows_append] at hc
    rcases List.mem_append.1 hc with hc | hc
    · exact h.a2 q hq hc
    · have h1 := (hx.young hc).2
      have h2 := huw q hq
      omega
  refine ⟨v', w2, u', w3, r1, s1, ⟨⟨B2.own.keeps s3.keeps (fun q hq e => uv q e hq), B2.rws.keeps s3.keeps (fun q hq e => ux q e hq), B2.ap⟩, by simpa using s2, fun q hq e => ?_, fun q hq hc => ?_⟩, ?_⟩
  · rcases s3.own with o | o
    · exact uv q (o ▸ hq) e
    · have h1 := o q hq
      have h2 := (own_block B2.own.own e).1
      omega
  · rcases s3.own with o | o
    · exact ux q (o ▸ hq) hc
    · have h1 := o q hq
      have h2 := (B2.rws.young hc).1
      omega
  · exact ((k.trans kW).mono fun _ _ f => f.elim).trans ((r3.keeps.mono fun q _ e => (own_block hW.bl.own.own e).2).trans (s3.keeps.mono fun q _ e => (own_block I2.own e).2))
/-- What the document's Blocks answers. -/
def RbPost (L : List Ev) (w : World) (ex : Ending) (w' : World) : Prop := ∃ (v u : Value) (X : List Bx), ex = .returned (.tuple #[v, u]) ∧ Bk2 w' w.heap.size v u X ∧ X.map (·.p) = begP L 0 ∧ Keeps (fun _ => False) w w'
theorem begP_len : ∀ (h : List Ev) (k : Nat), (begP h k).length ≤ h.length
  | [], _ => Nat.le_refl _
  | e :: h, k => by
    rw [begP]
    have := begP_len h (k + 1)
    split <;> simp <;> omega
set_option maxRecDepth 100000 in
set_option maxHeartbeats 8000000 in
theorem rblocks_any (v : Value) (L : List Ev) (hL : L.length ≤ 60000) (w : World) (hv : EvsAt w v L) : Calls Tryd.prog 12 #[v] w (RbPost L w) := by
  have HV : Hid (∀ X, Keeps (fun _ => False) w X → EvsAt X v L) := fun X k => hv.keeps k
  obtain ⟨a, cap, rfl, hcap⟩ := hv.els.shape
  clear hv
  have B0 : Bk2 w w.heap.size (.slice none 0 0) (.slice none 0 0) [] := ⟨⟨OwnR.nil _ _ _ _, Rws.nil _ _, fun g hg => by simp [Value.ownBlock] at hg⟩, OwnR.nil _ _ _ _, fun g hg => by simp [Value.ownBlock] at hg, fun g hg => by simp [Value.ownBlock] at hg⟩
  have hbl := begP_len L 0
  go_enter Tryd.func12, Tryd.ntmps12
  go_wp2_with fail
  go_loopw [4, 5, 6] (fun u4 u5 u6 wr => ∃ (k : Nat) (X : List Bx), u6 = .int .i64 k ∧ k ≤ L.length ∧ Hid (X.map (·.p) ++ begP (L.drop k) k = begP L 0) ∧ Hid (Bk2 wr w.heap.size u4 u5 X) ∧ Keeps (fun _ => False) w wr) (fun _ _ u6 _ => L.length - (intOf u6).toNat)
  case atStart => exact ⟨0, [], rfl, Nat.zero_le _, rfl, B0, Keeps.refl _ _⟩
  case round =>
    clear B0
    obtain ⟨k, X, rfl, hk, hh, hB, kr⟩ := hrel
    obtain ⟨va, vc, rfl⟩ := hB.out.bl.own.form
    obtain ⟨ua, uc, rfl⟩ := hB.out.lk.form
    by_cases hlt : k < L.length
    · have hki : (k : Int) < L.length := by omega
      have hk0 : (0 : Int) ≤ k := by omega
      have hwk : IntKind.i64.wrap ((k : Int) + 1) = (k : Int) + 1 := by rw [IntKind.wrap_i64]; omega
      obtain ⟨g, off, rfl, x0, x1, x2, x3, x4, x5⟩ := (HV.out wr kr).at k hlt
      have hb := hh.out
      rw [List.drop_eq_getElem_cons hlt, begP] at hb
      have hXl : X.length ≤ 60000 := by
        have := congrArg List.length hb
        simp only [List.length_append, List.length_map] at this
        omega
      by_cases h1 : (L[k]).kd = 1
      · rw [if_pos h1] at hb
        have hz : blkAt L k = blkG (newP (L[k]) k) (L.drop (k + 1)) (k + 1) := by simp [blkAt, hlt]
        have RB := rblock_any _ L k hlt h1 (by omega) wr (HV.out wr kr)
        rw [← hz] at hb
        generalize blkAt L k = z at *
        rw [h1] at x1
        have HH : Hid ((X.map (·.p) ++ [z]) ++ begP (L.drop (k + 1)) (k + 1) = begP L 0) := by unfold Hid; rw [← hb]; simp
        clear hb hz h1 hh x0 x2 x3 x4 x5
        go_wp2_with fail
        refine RB.mono ?_
        rintro ex w2 ⟨⟨ra, rn, rc⟩, ⟨sa, sn, sc⟩, rfl, hR, k2⟩
        obtain ⟨pth, pkd, pfi, pla, pnu, pwr, per, prs, pws, psi, plk⟩ := z
        have kW := (Keeps.refl (fun _ => False) w2).alloc (.cells #[.int .i64 pth, .int .i64 pkd, .int .i64 pfi, .int .i64 pla, .int .u64 pnu, .bool pwr, .int .i64 per, .slice ra rn rc, .slice sa sn sc] 43)
        obtain ⟨v', w3, u', w4, r1, r2, B4, k4⟩ := hB.out.push k2 hR kW hXl 27 31
        rw [show (w2.alloc (.cells #[.int .i64 pth, .int .i64 pkd, .int .i64 pfi, .int .i64 pla, .int .u64 pnu, .bool pwr, .int .i64 per, .slice ra rn rc, .slice sa sn sc] 43)).heap.size = w2.heap.size + 1 by simp] at r1
        obtain ⟨v'', h1, h2⟩ : ∃ s : Sl, v' = s.v ∧ True := by
          obtain ⟨b, c, h⟩ := B4.bl.own.form
          exact ⟨⟨b, _, c⟩, h, trivial⟩
        obtain ⟨ya, yn, yc⟩ := v''
        subst h1
        obtain ⟨⟨za, zn, zc⟩, rfl, -⟩ := sl_of B4.lk
        have H1 : Hid (_ = _) := r1
        have H2 : Hid (_ = _) := r2
        have HF : Hid (Bk2 w4 w.heap.size (.slice ya yn yc) (.slice za zn zc) (X ++ [⟨⟨pth, pkd, pfi, pla, pnu, pwr, per, prs, pws, psi, plk⟩, ⟨ra, rn, rc⟩, ⟨sa, sn, sc⟩⟩]) ∧ Keeps (fun _ => False) w w4) := ⟨B4, kr.young k4 (fun q hq => hq)⟩
        have HU : Hid ((X ++ [(⟨⟨pth, pkd, pfi, pla, pnu, pwr, per, prs, pws, psi, plk⟩, ⟨ra, rn, rc⟩, ⟨sa, sn, sc⟩⟩ : Bx)]).map (·.p) ++ begP (L.drop (k + 1)) (k + 1) = begP L 0) := by unfold Hid; simpa using HH.out
        clear RB hR k2 kW r1 r2 B4 k4 HH hB x1 h2
        simp only [List.length_map] at H2 ⊢
        simp only [Bx.cb, Sl.v]
        go_wp2_with (first
          | (at_builtin; have q1 := H1.out; refine wpList_append_run rfl _ _ 27 rfl rfl rfl q1 ?_; clear q1 H1)
          | (at_builtin; have q2 := H2.out; refine wpList_append_run rfl _ _ 31 rfl rfl rfl q2 ?_; clear q2 H2))
        go_roundw
        · exact ⟨k + 1, _, by simp, by omega, HU.out, HF.out.1, HF.out.2⟩
        · simp [intOf]; omega
      · rw [if_neg h1] at hb
        have HH : Hid (X.map (·.p) ++ begP (L.drop (k + 1)) (k + 1) = begP L 0) := hb
        have hbq : ((L[k]).kd == 1) = false := by rw [beq_eq_false_iff_ne]; exact h1
        generalize L[k]'hlt = e at *
        obtain ⟨th, kd, ad, wd, own, er⟩ := e
        dsimp only at x1 hbq
        clear hb hh h1 x0 x2 x3 x4 x5
        go_wp2_with fail
        go_roundw
        · exact ⟨k + 1, X, by simp, by omega, HH.out, hB.out, kr⟩
        · simp [intOf]; omega
    · obtain rfl : k = L.length := by omega
      have HF : Hid (RbPost L w (.returned (.tuple #[.slice va X.length vc, .slice ua (X.map (·.p.si)).length uc])) wr) := by
        have hb := hh.out
        rw [List.drop_length, begP, List.append_nil] at hb
        exact ⟨_, _, X, rfl, hB.out, hb, kr⟩
      clear hh hB
      go_wp2_with fail
      go_ret2
      exact HF.out
end Go.Proofs.YtjkileijkgbndaaDoor


/- Walks of the document's comparisons (packages parleyref12, parleyref15), of what is alike. No statement of the seat is proved here. -/
namespace Go.Proofs.YtjkileijkgbndaaDoor
open Go.RowKit Go.Shelf

theorem eq_ev_self (a b c d : Int) (e : Bool) (f : Int) (w : World) : (Op.equalIn 10000 50 (.agg #[.int .i64 a, .int .i64 b, .int .u64 c, .int .u64 d, .bool e, .int .i64 f]) (.agg #[.int .i64 a, .int .i64 b, .int .u64 c, .int .u64 d, .bool e, .int .i64 f])).run Tryd.prog w = .ok true w := by
  have u3 := Tryd.underlying3
  have a3 := Tryd.isAgg3
  have z3 := Tryd.sizeOf3
  have u4 := Tryd.underlying48
  have a4 := Tryd.isAgg48
  have z4 := Tryd.sizeOf48
  have u5 := Tryd.underlying40
  have a5 := Tryd.isAgg40
  have z5 := Tryd.sizeOf40
  have u6 := Tryd.underlying4
  have a6 := Tryd.isAgg4
  have z6 := Tryd.sizeOf4
  have u7 := Tryd.underlying28
  have a7 := Tryd.isAgg28
  have z7 := Tryd.sizeOf28
  have hS : Tryd.prog.underlying 50 = some (.struct (Tryd.prog.fieldsOf 50)) := by kernel_rfl
  rw [show (10000 : Nat) = 9999 + 1 from rfl, run_equalIn_agg w 9999 50 _ _ hS (by kernel_rfl)]
  simp only [Program.fieldsOf, Tryd.underlying50]
  go_simp
set_option maxRecDepth 100000 in
set_option maxHeartbeats 4000000 in
theorem rsev_any (va vb : Value) (L : List Ev) (hL : L.length ≤ 4611686018427387) (w : World) (ha : ElsAt Ev.cl 6 w va L) (hb : ElsAt Ev.cl 6 w vb L) : Calls Tryd.prog 20 #[va, vb] w fun e w' => e = .returned (.bool true) ∧ Keeps (fun _ => False) w w' := by
  have HA : Hid (∀ X, Keeps (fun _ => False) w X → ElsAt Ev.cl 6 X va L) := fun X k => ha.keeps ev_ne k
  have HB : Hid (∀ X, Keeps (fun _ => False) w X → ElsAt Ev.cl 6 X vb L) := fun X k => hb.keeps ev_ne k
  have k0 := Keeps.refl (fun _ => False) w
  have Q := eq_ev_self
  obtain ⟨a0, c0, rfl, _⟩ := ha.shape
  obtain ⟨a1, c1, rfl, _⟩ := hb.shape
  clear ha hb
  go_enter Tryd.func20, Tryd.ntmps20
  go_wp2_with fail
  go_loopw [5] (fun u wr => ∃ (k : Nat), u = .int .i64 k ∧ k ≤ L.length ∧ Keeps (fun _ => False) w wr) (fun u _ => L.length - (intOf u).toNat)
  case atStart => exact ⟨0, rfl, Nat.zero_le _, k0⟩
  case round =>
    obtain ⟨k, rfl, hk, kr⟩ := hrel
    by_cases hlt : k < L.length
    · obtain ⟨ga, off, rfl, x⟩ := (HA.out wr kr).at k hlt
      obtain ⟨gb, offb, rfl, y⟩ := (HB.out wr kr).at k hlt
      have hki : (k : Int) < L.length := by omega
      have hk0 : (0 : Int) ≤ k := by omega
      generalize L[k]'hlt = i at *
      obtain ⟨th, kd, ad, wd, own, er⟩ := i
      have x0 := x 0 _ rfl
      have x1 := x 1 _ rfl
      have x2 := x 2 _ rfl
      have x3 := x 3 _ rfl
      have x4 := x 4 _ rfl
      have x5 := x 5 _ rfl
      have y0 := y 0 _ rfl
      have y1 := y 1 _ rfl
      have y2 := y 2 _ rfl
      have y3 := y 3 _ rfl
      have y4 := y 4 _ rfl
      have y5 := y 5 _ rfl
      simp only [Nat.add_zero] at x0 y0
      dsimp only at x0 x1 x2 x3 x4 x5 y0 y1 y2 y3 y4 y5
      have Q1 := Q th kd ad wd own er
      clear x y Q
      go_wp2_with fail
      go_quiet (fail)
      go_wp2_with fail
      go_roundw
      · exact ⟨k + 1, by simp, by omega, kr.drewN _⟩
      · simp [intOf]; omega
    · obtain rfl : k = L.length := by omega
      go_wp2_with fail
      go_ret
      exact ⟨rfl, kr⟩
theorem eq_en_self (a b : Int) (e : Bool) (w : World) : (Op.equalIn 10000 47 (.agg #[.int .u64 a, .int .u64 b, .bool e]) (.agg #[.int .u64 a, .int .u64 b, .bool e])).run Tryd.prog w = .ok true w := by
  have u5 := Tryd.underlying40
  have a5 := Tryd.isAgg40
  have z5 := Tryd.sizeOf40
  have u6 := Tryd.underlying4
  have a6 := Tryd.isAgg4
  have z6 := Tryd.sizeOf4
  have hS : Tryd.prog.underlying 47 = some (.struct (Tryd.prog.fieldsOf 47)) := by kernel_rfl
  rw [show (10000 : Nat) = 9999 + 1 from rfl, run_equalIn_agg w 9999 47 _ _ hS (by kernel_rfl)]
  simp only [Program.fieldsOf, Tryd.underlying47]
  go_simp
set_option maxRecDepth 100000 in
set_option maxHeartbeats 4000000 in
theorem rsen_any (va vb : Value) (L : List (Int × Int)) (hL : L.length ≤ 4611686018427387) (w : World) (ha : ElsAt enC 3 w va L) (hb : ElsAt enC 3 w vb L) : Calls Tryd.prog 24 #[va, vb] w fun e w' => e = .returned (.bool true) ∧ Keeps (fun _ => False) w w' := by
  have HA : Hid (∀ X, Keeps (fun _ => False) w X → ElsAt enC 3 X va L) := fun X k => ha.keeps en_ne k
  have HB : Hid (∀ X, Keeps (fun _ => False) w X → ElsAt enC 3 X vb L) := fun X k => hb.keeps en_ne k
  have k0 := Keeps.refl (fun _ => False) w
  have Q := eq_en_self
  obtain ⟨a0, c0, rfl, _⟩ := ha.shape
  obtain ⟨a1, c1, rfl, _⟩ := hb.shape
  clear ha hb
  go_enter Tryd.func24, Tryd.ntmps24
  go_wp2_with fail
  go_loopw [5] (fun u wr => ∃ (k : Nat), u = .int .i64 k ∧ k ≤ L.length ∧ Keeps (fun _ => False) w wr) (fun u _ => L.length - (intOf u).toNat)
  case atStart => exact ⟨0, rfl, Nat.zero_le _, k0⟩
  case round =>
    obtain ⟨k, rfl, hk, kr⟩ := hrel
    by_cases hlt : k < L.length
    · obtain ⟨ga, off, rfl, x⟩ := (HA.out wr kr).at k hlt
      obtain ⟨gb, offb, rfl, y⟩ := (HB.out wr kr).at k hlt
      have hki : (k : Int) < L.length := by omega
      have hk0 : (0 : Int) ≤ k := by omega
      generalize L[k]'hlt = i at *
      obtain ⟨ad, wd⟩ := i
      have x0 := x 0 _ rfl
      have x1 := x 1 _ rfl
      have x2 := x 2 _ rfl
      have y0 := y 0 _ rfl
      have y1 := y 1 _ rfl
      have y2 := y 2 _ rfl
      simp only [Nat.add_zero] at x0 y0
      dsimp only at x0 x1 x2 y0 y1 y2
      have Q1 := Q ad wd false
      clear x y Q
      go_wp2_with fail
      go_quiet (fail)
      go_wp2_with fail
      go_roundw
      · exact ⟨k + 1, by simp, by omega, kr.drewN _⟩
      · simp [intOf]; omega
    · obtain rfl : k = L.length := by omega
      go_wp2_with fail
      go_ret
      exact ⟨rfl, kr⟩
set_option maxRecDepth 100000 in
set_option maxHeartbeats 4000000 in
theorem rsin_any (va vb : Value) (L : List Int) (hL : L.length ≤ 4611686018427387) (w : World) (ha : ElsAt ciC 1 w va L) (hb : ElsAt ciC 1 w vb L) : Calls Tryd.prog 15 #[va, vb] w fun e w' => e = .returned (.bool true) ∧ Keeps (fun _ => False) w w' := by
  have HA : Hid (∀ X, Keeps (fun _ => False) w X → ElsAt ciC 1 X va L) := fun X k => ha.keeps cic_ne k
  have HB : Hid (∀ X, Keeps (fun _ => False) w X → ElsAt ciC 1 X vb L) := fun X k => hb.keeps cic_ne k
  have k0 := Keeps.refl (fun _ => False) w
  obtain ⟨a0, c0, rfl, _⟩ := ha.shape
  obtain ⟨a1, c1, rfl, _⟩ := hb.shape
  clear ha hb
  go_enter Tryd.func15, Tryd.ntmps15
  go_wp2_with fail
  go_loopw [5] (fun u wr => ∃ (k : Nat), u = .int .i64 k ∧ k ≤ L.length ∧ Keeps (fun _ => False) w wr) (fun u _ => L.length - (intOf u).toNat)
  case atStart => exact ⟨0, rfl, Nat.zero_le _, k0⟩
  case round =>
    obtain ⟨k, rfl, hk, kr⟩ := hrel
    by_cases hlt : k < L.length
    · obtain ⟨ga, off, rfl, x⟩ := (HA.out wr kr).at k hlt
      obtain ⟨gb, offb, rfl, y⟩ := (HB.out wr kr).at k hlt
      have hki : (k : Int) < L.length := by omega
      have hk0 : (0 : Int) ≤ k := by omega
      generalize L[k]'hlt = i at *
      have x0 := x 0 _ rfl
      have y0 := y 0 _ rfl
      simp only [Nat.add_zero, Nat.mul_one] at x0 y0
      clear x y
      go_wp2_with fail
      go_quiet (fail)
      go_wp2_with fail
      go_roundw
      · exact ⟨k + 1, by simp, by omega, kr.drewN _⟩
      · simp [intOf]; omega
    · obtain rfl : k = L.length := by omega
      go_wp2_with fail
      go_ret
      exact ⟨rfl, kr⟩
set_option maxRecDepth 100000 in
set_option maxHeartbeats 4000000 in
theorem rover_any (x : Bx) (w : World) : Calls Tryd.prog 22 #[.agg x.cb.toArray] w fun ex w' => ex = .returned (.bool (overB x.p)) ∧ Keeps (fun _ => False) w w' := by
  obtain ⟨⟨pth, pkd, pfi, pla, pnu, pwr, per, prs, pws, psi, plk⟩, ⟨ra, rn, rc⟩, ⟨sa, sn, sc⟩⟩ := x
  have k0 := (Keeps.refl (fun _ => False) w).alloc (.cells #[.int .i64 pth, .int .i64 pkd, .int .i64 pfi, .int .i64 pla, .int .u64 pnu, .bool pwr, .int .i64 per, .slice ra rn rc, .slice sa sn sc] 43)
  unfold overB
  show Calls Tryd.prog 22 #[.agg #[.int .i64 pth, .int .i64 pkd, .int .i64 pfi, .int .i64 pla, .int .u64 pnu, .bool pwr, .int .i64 per, .slice ra rn rc, .slice sa sn sc]] w fun ex w' => ex = .returned (.bool (decide (pkd = 1) || decide (pkd = 2) || decide (pkd = 3))) ∧ Keeps (fun _ => False) w w'
  by_cases h1 : pkd = 1
  · subst h1
    go_enter Tryd.func22, Tryd.ntmps22
    go_wp2_with fail
    go_ret
    exact ⟨rfl, k0⟩
  · by_cases h2 : pkd = 2
    · subst h2
      go_enter Tryd.func22, Tryd.ntmps22
      go_wp2_with fail
      go_ret
      exact ⟨rfl, k0⟩
    · by_cases h3 : pkd = 3
      · subst h3
        go_enter Tryd.func22, Tryd.ntmps22
        go_wp2_with fail
        go_ret
        exact ⟨rfl, k0⟩
      · have b1 : (pkd == 1) = false := by rw [beq_eq_false_iff_ne]; exact h1
        have b2 : (pkd == 2) = false := by rw [beq_eq_false_iff_ne]; exact h2
        have b3 : (pkd == 3) = false := by rw [beq_eq_false_iff_ne]; exact h3
        go_enter Tryd.func22, Tryd.ntmps22
        go_wp2_with fail
        go_ret
        exact ⟨by simp [h1, h2, h3], k0⟩
set_option maxRecDepth 100000 in
set_option maxHeartbeats 4000000 in
theorem rbefore_any (x y : Bx) (w : World) : Calls Tryd.prog 23 #[.agg x.cb.toArray, .int .i64 x.p.si, .agg y.cb.toArray, .int .i64 y.p.si] w fun ex w' => ex = .returned (.bool (befB x.p y.p)) ∧ Keeps (fun _ => False) w w' := by
  obtain ⟨⟨pth, pkd, pfi, pla, pnu, pwr, per, prs, pws, psi, plk⟩, ⟨ra, rn, rc⟩, ⟨sa, sn, sc⟩⟩ := x
  obtain ⟨⟨qth, qkd, qfi, qla, qnu, qwr, qer, qrs, qws, qsi, qlk⟩, ⟨ta, tn, tc⟩, ⟨ua, un, uc⟩⟩ := y
  have k0 := ((Keeps.refl (fun _ => False) w).alloc (.cells #[.int .i64 pth, .int .i64 pkd, .int .i64 pfi, .int .i64 pla, .int .u64 pnu, .bool pwr, .int .i64 per, .slice ra rn rc, .slice sa sn sc] 43)).alloc (.cells #[.int .i64 qth, .int .i64 qkd, .int .i64 qfi, .int .i64 qla, .int .u64 qnu, .bool qwr, .int .i64 qer, .slice ta tn tc, .slice ua un uc] 43)
  unfold befB
  show Calls Tryd.prog 23 #[.agg #[.int .i64 pth, .int .i64 pkd, .int .i64 pfi, .int .i64 pla, .int .u64 pnu, .bool pwr, .int .i64 per, .slice ra rn rc, .slice sa sn sc], .int .i64 psi, .agg #[.int .i64 qth, .int .i64 qkd, .int .i64 qfi, .int .i64 qla, .int .u64 qnu, .bool qwr, .int .i64 qer, .slice ta tn tc, .slice ua un uc], .int .i64 qsi] w fun ex w' => ex = .returned (.bool (if pnu ≠ qnu then decide (pnu < qnu) else if pwr ≠ qwr then pwr else decide (psi < qsi))) ∧ Keeps (fun _ => False) w w'
  by_cases h1 : pnu = qnu
  · subst h1
    rw [if_neg (by simp)]
    cases pwr <;> cases qwr
    all_goals
      go_enter Tryd.func23, Tryd.ntmps23
      go_wp2_with fail
      go_ret
      exact ⟨rfl, k0⟩
  · rw [if_pos h1]
    have b1 : (pnu == qnu) = false := by rw [beq_eq_false_iff_ne]; exact h1
    have b2 : (pnu != qnu) = true := by rw [bne_iff_ne]; exact h1
    go_enter Tryd.func23, Tryd.ntmps23
    go_wp2_with fail
    go_ret
    exact ⟨rfl, k0⟩
end Go.Proofs.YtjkileijkgbndaaDoor


/- A walk of the document's SameBlocks (package parleyref15), of blocks that are alike. No statement of the seat is proved here. -/
namespace Go.Proofs.YtjkileijkgbndaaDoor
open Go.RowKit Go.Shelf

theorem set9 {w : World} {b : Nat} {c0 c1 c2 c3 c4 c5 c6 c7 c8 v0 v1 v2 v3 v4 v5 v6 v7 v8 : Value} {t : TypeId} (h : w.heap[b]? = some (.cells #[c0, c1, c2, c3, c4, c5, c6, c7, c8] t (0, 0))) : (w.setCells b 0 [v0, v1, v2, v3, v4, v5, v6, v7, v8]).heap[b]? = some (.cells #[v0, v1, v2, v3, v4, v5, v6, v7, v8] t (0, 0)) := by
  have h0 : (w.setCell ⟨b, 0, none⟩ v0).heap[b]? = some (.cells #[v0, c1, c2, c3, c4, c5, c6, c7, c8] t (0, 0)) := block_set h 0 v0
  have h1 : ((w.setCell ⟨b, 0, none⟩ v0).setCell ⟨b, 1, none⟩ v1).heap[b]? = some (.cells #[v0, v1, c2, c3, c4, c5, c6, c7, c8] t (0, 0)) := block_set h0 1 v1
  have h2 : (((w.setCell ⟨b, 0, none⟩ v0).setCell ⟨b, 1, none⟩ v1).setCell ⟨b, 2, none⟩ v2).heap[b]? = some (.cells #[v0, v1, v2, c3, c4, c5, c6, c7, c8] t (0, 0)) := block_set h1 2 v2
  have h3 : ((((w.setCell ⟨b, 0, none⟩ v0).setCell ⟨b, 1, none⟩ v1).setCell ⟨b, 2, none⟩ v2).setCell ⟨b, 3, none⟩ v3).heap[b]? = some (.cells #[v0, v1, v2, v3, c4, c5, c6, c7, c8] t (0, 0)) := block_set h2 3 v3
  have h4 : (((((w.setCell ⟨b, 0, none⟩ v0).setCell ⟨b, 1, none⟩ v1).setCell ⟨b, 2, none⟩ v2).setCell ⟨b, 3, none⟩ v3).setCell ⟨b, 4, none⟩ v4).heap[b]? = some (.cells #[v0, v1, v2, v3, v4, c5, c6, c7, c8] t (0, 0)) := block_set h3 4 v4
  have h5 : ((((((w.setCell ⟨b, 0, none⟩ v0).setCell ⟨b, 1, none⟩ v1).setCell ⟨b, 2, none⟩ v2).setCell ⟨b, 3, none⟩ v3).setCell ⟨b, 4, none⟩ v4).setCell ⟨b, 5, none⟩ v5).heap[b]? = some (.cells #[v0, v1, v2, v3, v4, v5, c6, c7, c8] t (0, 0)) := block_set h4 5 v5
  have h6 : (((((((w.setCell ⟨b, 0, none⟩ v0).setCell ⟨b, 1, none⟩ v1).setCell ⟨b, 2, none⟩ v2).setCell ⟨b, 3, none⟩ v3).setCell ⟨b, 4, none⟩ v4).setCell ⟨b, 5, none⟩ v5).setCell ⟨b, 6, none⟩ v6).heap[b]? = some (.cells #[v0, v1, v2, v3, v4, v5, v6, c7, c8] t (0, 0)) := block_set h5 6 v6
  have h7 : ((((((((w.setCell ⟨b, 0, none⟩ v0).setCell ⟨b, 1, none⟩ v1).setCell ⟨b, 2, none⟩ v2).setCell ⟨b, 3, none⟩ v3).setCell ⟨b, 4, none⟩ v4).setCell ⟨b, 5, none⟩ v5).setCell ⟨b, 6, none⟩ v6).setCell ⟨b, 7, none⟩ v7).heap[b]? = some (.cells #[v0, v1, v2, v3, v4, v5, v6, v7, c8] t (0, 0)) := block_set h6 7 v7
  have h8 : (((((((((w.setCell ⟨b, 0, none⟩ v0).setCell ⟨b, 1, none⟩ v1).setCell ⟨b, 2, none⟩ v2).setCell ⟨b, 3, none⟩ v3).setCell ⟨b, 4, none⟩ v4).setCell ⟨b, 5, none⟩ v5).setCell ⟨b, 6, none⟩ v6).setCell ⟨b, 7, none⟩ v7).setCell ⟨b, 8, none⟩ v8).heap[b]? = some (.cells #[v0, v1, v2, v3, v4, v5, v6, v7, v8] t (0, 0)) := block_set h7 8 v8
  simp only [World.setCells, Nat.zero_add, Nat.reduceAdd]
  exact h8
theorem keeps_cells {S : Nat → Prop} {a : World} {b : Nat} (hp : a.heap.size ≤ b ∨ S b) : ∀ (vs : List Value) (o : Nat) (w : World), Keeps S a w → Keeps S a (w.setCells b o vs)
  | [], _, _, k => k
  | v :: vs, o, _, k => keeps_cells hp vs (o + 1) _ (k.setCell (p := ⟨b, o, none⟩) hp v)
theorem Keeps.setCells9 {S : Nat → Prop} {w : World} {b : Nat} (hp : w.heap.size ≤ b ∨ S b) (vs : List Value) : Keeps S w (w.setCells b 0 vs) := keeps_cells hp vs 0 w (Keeps.refl S w)
theorem cells9 {w : World} {g : Nat} {a b c d e f x y z : Value} {t : TypeId} {fr : Nat × Nat} (h : w.heap[g]? = some (.cells #[a, b, c, d, e, f, x, y, z] t fr)) : w.cell? ⟨g, 0, none⟩ = some a ∧ w.cell? ⟨g, 1, none⟩ = some b ∧ w.cell? ⟨g, 2, none⟩ = some c ∧ w.cell? ⟨g, 3, none⟩ = some d ∧ w.cell? ⟨g, 4, none⟩ = some e ∧ w.cell? ⟨g, 5, none⟩ = some f ∧ w.cell? ⟨g, 6, none⟩ = some x ∧ w.cell? ⟨g, 7, none⟩ = some y ∧ w.cell? ⟨g, 8, none⟩ = some z :=
  ⟨by rw [cell_of_block h]; rfl, by rw [cell_of_block h]; rfl, by rw [cell_of_block h]; rfl, by rw [cell_of_block h]; rfl, by rw [cell_of_block h]; rfl, by rw [cell_of_block h]; rfl, by rw [cell_of_block h]; rfl, by rw [cell_of_block h]; rfl, by rw [cell_of_block h]; rfl⟩
theorem run_store_mid_op {P : Program} {o : Oper} {a : Act} {w : World} {x y : Operand} {ty : TypeId} (ho : o.op = .store ty x y) (g off : Nat) (cells : Array Value) (hx : a.eval x = .pointer (some ⟨g, off, none⟩)) (hy : a.eval y = .agg cells)
    (ht : w.there g off cells.size) (hi : (P.info? ty).map (·.size) = some cells.size) (h1 : cells.all (·.oneCell') = true) : (execOp a.eval o).run P w = .ok .skip (w.setCells g off cells.toList) := by
  unfold execOp
  simp only [ho, hx, hy, run_storeAt_mid w g off ty cells ht hi h1, Sem.run_bind, Sem.run_pure, Result.andThen_ok]
theorem there_of {w : World} {g off n : Nat} {cur : Array Value} {t : TypeId} (hb : w.heap[g]? = some (.cells cur t (0, 0))) (h : off + n ≤ cur.size) : w.there g off n := fun j hj => by
  refine ⟨?_, frozen_of_block hb _⟩
  rw [cell_of_block hb, Array.getElem?_eq_getElem (by omega)]
  rfl
/-- Blocks as they lie. -/
structure BlE (w : World) (v : Value) (X : List Bx) : Prop where
  row : ElsAt Bx.cb 9 w v X
  rd : ∀ x ∈ X, ElsAt enC 3 w x.r.v x.p.rs
  wt : ∀ x ∈ X, ElsAt enC 3 w x.s.v x.p.ws
theorem BlE.keeps {w w' : World} {v : Value} {X : List Bx} (h : BlE w v X) (k : Keeps (fun _ => False) w w') : BlE w' v X :=
  ⟨h.row.keeps cb_ne k, fun x hx => (h.rd x hx).keeps en_ne k, fun x hx => (h.wt x hx).keeps en_ne k⟩
theorem RwL.ble {w : World} {base : Nat} {v : Value} {X : List Bx} (h : Bls w base v X) : BlE w v X :=
  ⟨h.own.els cb_len, fun x hx => (h.rws.rd x hx).els en_len, fun x hx => (h.rws.wt x hx).els en_len⟩
set_option maxRecDepth 100000 in
set_option maxHeartbeats 8000000 in
theorem rsbl_any (va vb : Value) (X Y : List Bx) (hp : X.map (·.p) = Y.map (·.p)) (hX : X.length ≤ 60000) (hbd : ∀ x ∈ X, x.p.rs.length ≤ 60000 ∧ x.p.ws.length ≤ 60000) (w : World) (ha : BlE w va X) (hb : BlE w vb Y) : Calls Tryd.prog 14 #[va, vb] w fun e w' => e = .returned (.bool true) ∧ Keeps (fun _ => False) w w' := by
  have HA : Hid (∀ Z, Keeps (fun _ => False) w Z → BlE Z va X) := fun Z k => ha.keeps k
  have HB : Hid (∀ Z, Keeps (fun _ => False) w Z → BlE Z vb Y) := fun Z k => hb.keeps k
  have hl : Y.length = X.length := by have := congrArg List.length hp; simpa using this.symm
  have hmx : Tryd.prog.follows .mixedOrders = true := by kernel_rfl
  have k0 := Keeps.refl (fun _ => False) w
  obtain ⟨a0, c0, rfl, _⟩ := ha.row.shape
  obtain ⟨a1, c1, rfl, _⟩ := hb.row.shape
  rw [hl] at HB ⊢
  have HL : Hid (Y.length = X.length) := hl
  clear ha hb hl
  go_enter Tryd.func14, Tryd.ntmps14
  go_wp2_with fail
  go_loopw [5] (fun u wr => ∃ (k : Nat), u = .int .i64 k ∧ k ≤ X.length ∧ Keeps (fun _ => False) w wr) (fun u _ => X.length - (intOf u).toNat)
  case atStart => exact ⟨0, rfl, Nat.zero_le _, k0⟩
  case round =>
    obtain ⟨k, rfl, hk, kr⟩ := hrel
    by_cases hlt : k < X.length
    · have hltY : k < Y.length := by rw [HL.out]; exact hlt
      obtain ⟨ga, off, rfl, x⟩ := (HA.out wr kr).row.at k hlt
      obtain ⟨gb, offb, rfl, y⟩ := (HB.out wr kr).row.at k hltY
      have hki : (k : Int) < X.length := by omega
      have hk0 : (0 : Int) ≤ k := by omega
      have hpe : (X[k]).p = (Y[k]'hltY).p := by
        have := congrArg (fun l : List Pt => l[k]?) hp
        simpa [hlt, hltY] using this
      have hbx := hbd _ (List.getElem_mem hlt)
      have HX : Hid (∀ Z, Keeps (fun _ => False) w Z → ElsAt enC 3 Z (X[k]).r.v (X[k]).p.rs ∧ ElsAt enC 3 Z (X[k]).s.v (X[k]).p.ws) := fun Z kz => ⟨(HA.out Z kz).rd _ (List.getElem_mem hlt), (HA.out Z kz).wt _ (List.getElem_mem hlt)⟩
      have HY : Hid (∀ Z, Keeps (fun _ => False) w Z → ElsAt enC 3 Z (Y[k]'hltY).r.v (Y[k]'hltY).p.rs ∧ ElsAt enC 3 Z (Y[k]'hltY).s.v (Y[k]'hltY).p.ws) := fun Z kz => ⟨(HB.out Z kz).rd _ (List.getElem_mem hltY), (HB.out Z kz).wt _ (List.getElem_mem hltY)⟩
      generalize X[k]'hlt = xx at *
      generalize Y[k]'hltY = yy at *
      clear hbd
      obtain ⟨p, ⟨ra, rn, rc⟩, ⟨sa, sn, sc⟩⟩ := xx
      obtain ⟨p', ⟨ta, tn, tc⟩, ⟨ua, un, uc⟩⟩ := yy
      dsimp only at hpe
      subst hpe
      obtain ⟨pth, pkd, pfi, pla, pnu, pwr, per, prs, pws, psi, plk⟩ := p
      dsimp only at hbx HX HY
      have x0 := x 0 _ rfl
      have x1 := x 1 _ rfl
      have x2 := x 2 _ rfl
      have x3 := x 3 _ rfl
      have x4 := x 4 _ rfl
      have x5 := x 5 _ rfl
      have x6 := x 6 _ rfl
      have x7 := x 7 _ rfl
      have x8 := x 8 _ rfl
      have y0 := y 0 _ rfl
      have y1 := y 1 _ rfl
      have y2 := y 2 _ rfl
      have y3 := y 3 _ rfl
      have y4 := y 4 _ rfl
      have y5 := y 5 _ rfl
      have y6 := y 6 _ rfl
      have y7 := y 7 _ rfl
      have y8 := y 8 _ rfl
      simp only [Nat.add_zero] at x0 y0
      dsimp only at x0 x1 x2 x3 x4 x5 x6 x7 x8 y0 y1 y2 y3 y4 y5 y6 y7 y8
      clear x y
      have HC : Hid (∀ W : World, Keeps (fun _ => False) wr W → (W.cell? ⟨ga, off + k * 9, none⟩ = some (.int .i64 pth) ∧ W.cell? ⟨ga, off + k * 9 + 1, none⟩ = some (.int .i64 pkd) ∧ W.cell? ⟨ga, off + k * 9 + 2, none⟩ = some (.int .i64 pfi) ∧ W.cell? ⟨ga, off + k * 9 + 3, none⟩ = some (.int .i64 pla) ∧ W.cell? ⟨ga, off + k * 9 + 4, none⟩ = some (.int .u64 pnu) ∧ W.cell? ⟨ga, off + k * 9 + 5, none⟩ = some (.bool pwr) ∧ W.cell? ⟨ga, off + k * 9 + 6, none⟩ = some (.int .i64 per) ∧ W.cell? ⟨ga, off + k * 9 + 7, none⟩ = some (.slice ra rn rc) ∧ W.cell? ⟨ga, off + k * 9 + 8, none⟩ = some (.slice sa sn sc)) ∧ (W.cell? ⟨gb, offb + k * 9, none⟩ = some (.int .i64 pth) ∧ W.cell? ⟨gb, offb + k * 9 + 1, none⟩ = some (.int .i64 pkd) ∧ W.cell? ⟨gb, offb + k * 9 + 2, none⟩ = some (.int .i64 pfi) ∧ W.cell? ⟨gb, offb + k * 9 + 3, none⟩ = some (.int .i64 pla) ∧ W.cell? ⟨gb, offb + k * 9 + 4, none⟩ = some (.int .u64 pnu) ∧ W.cell? ⟨gb, offb + k * 9 + 5, none⟩ = some (.bool pwr) ∧ W.cell? ⟨gb, offb + k * 9 + 6, none⟩ = some (.int .i64 per) ∧ W.cell? ⟨gb, offb + k * 9 + 7, none⟩ = some (.slice ta tn tc) ∧ W.cell? ⟨gb, offb + k * 9 + 8, none⟩ = some (.slice ua un uc))) := fun W q =>
        ⟨⟨q.cellB (fun f => f) x0, q.cellB (fun f => f) x1, q.cellB (fun f => f) x2, q.cellB (fun f => f) x3, q.cellB (fun f => f) x4, q.cellB (fun f => f) x5, q.cellB (fun f => f) x6, q.cellB (fun f => f) x7, q.cellB (fun f => f) x8⟩, ⟨q.cellB (fun f => f) y0, q.cellB (fun f => f) y1, q.cellB (fun f => f) y2, q.cellB (fun f => f) y3, q.cellB (fun f => f) y4, q.cellB (fun f => f) y5, q.cellB (fun f => f) y6, q.cellB (fun f => f) y7, q.cellB (fun f => f) y8⟩⟩
      clear x0 x1 x2 x3 x4 x5 x6 x7 x8 y0 y1 y2 y3 y4 y5 y6 y7 y8
      have kd := (Keeps.refl (fun _ => False) wr).drew
      have kz1 := kd.alloc (.cells #[.int .i64 0, .int .i64 0, .int .i64 0, .int .i64 0, .int .u64 0, .bool false, .int .i64 0, .slice none 0 0, .slice none 0 0] 43)
      have kz2 := kz1.alloc (.cells #[.int .i64 0, .int .i64 0, .int .i64 0, .int .i64 0, .int .u64 0, .bool false, .int .i64 0, .slice none 0 0, .slice none 0 0] 43)
      have hz1 : ((wr.drew.alloc (.cells #[.int .i64 0, .int .i64 0, .int .i64 0, .int .i64 0, .int .u64 0, .bool false, .int .i64 0, .slice none 0 0, .slice none 0 0] 43)).alloc (.cells #[.int .i64 0, .int .i64 0, .int .i64 0, .int .i64 0, .int .u64 0, .bool false, .int .i64 0, .slice none 0 0, .slice none 0 0] 43)).heap[wr.heap.size]? = some (.cells #[.int .i64 0, .int .i64 0, .int .i64 0, .int .i64 0, .int .u64 0, .bool false, .int .i64 0, .slice none 0 0, .slice none 0 0] 43 (0, 0)) := (Below.heap_alloc _ _ _ (by simp)).trans (MapKept.heap_alloc wr.drew _).1
      have hz2 : ((wr.drew.alloc (.cells #[.int .i64 0, .int .i64 0, .int .i64 0, .int .i64 0, .int .u64 0, .bool false, .int .i64 0, .slice none 0 0, .slice none 0 0] 43)).alloc (.cells #[.int .i64 0, .int .i64 0, .int .i64 0, .int .i64 0, .int .u64 0, .bool false, .int .i64 0, .slice none 0 0, .slice none 0 0] 43)).heap[wr.heap.size + 1]? = some (.cells #[.int .i64 0, .int .i64 0, .int .i64 0, .int .i64 0, .int .u64 0, .bool false, .int .i64 0, .slice none 0 0, .slice none 0 0] 43 (0, 0)) := by
        have h := (MapKept.heap_alloc (wr.drew.alloc (.cells #[.int .i64 0, .int .i64 0, .int .i64 0, .int .i64 0, .int .u64 0, .bool false, .int .i64 0, .slice none 0 0, .slice none 0 0] 43)) (.cells #[.int .i64 0, .int .i64 0, .int .i64 0, .int .i64 0, .int .u64 0, .bool false, .int .i64 0, .slice none 0 0, .slice none 0 0] 43)).1
        rw [show (wr.drew.alloc (.cells #[.int .i64 0, .int .i64 0, .int .i64 0, .int .i64 0, .int .u64 0, .bool false, .int .i64 0, .slice none 0 0, .slice none 0 0] 43)).heap.size = wr.heap.size + 1 by simp] at h
        exact h
      go_wp2_with fail
      refine wp_heldE (S := fun W : World => Keeps (fun _ => False) wr W) 12 rfl hmx ?_
      simp only [Array.replicate_succ, Array.replicate_zero, List.push_toArray, List.nil_append, List.cons_append]
      refine held_take (i := 0) (v := (.slice (some ⟨ga, off, none⟩) X.length c0)) 19 rfl rfl (by kernel_rfl) (by kernel_rfl) (by kernel_rfl) rfl (fun w' hw' => by obtain ⟨⟨x0, x1, x2, x3, x4, x5, x6, x7, x8⟩, ⟨y0, y1, y2, y3, y4, y5, y6, y7, y8⟩⟩ := HC.out w' hw'; go_simp) kd ?_
      simp only [Act.put, List.setIfInBounds_toArray, List.set_cons_zero, List.set_cons_succ]
      refine held_take (i := 1) (v := (.int .i64 (k : Int))) 20 rfl rfl (by kernel_rfl) (by kernel_rfl) (by kernel_rfl) rfl (fun w' hw' => by obtain ⟨⟨x0, x1, x2, x3, x4, x5, x6, x7, x8⟩, ⟨y0, y1, y2, y3, y4, y5, y6, y7, y8⟩⟩ := HC.out w' hw'; go_simp) kd ?_
      simp only [Act.put, List.setIfInBounds_toArray, List.set_cons_zero, List.set_cons_succ]
      refine held_take (i := 2) (v := (.pointer (some ⟨ga, off + k * 9, none⟩))) 21 rfl rfl (by kernel_rfl) (by kernel_rfl) (by kernel_rfl) rfl (fun w' hw' => by obtain ⟨⟨x0, x1, x2, x3, x4, x5, x6, x7, x8⟩, ⟨y0, y1, y2, y3, y4, y5, y6, y7, y8⟩⟩ := HC.out w' hw'; go_simp) kd ?_
      simp only [Act.put, List.setIfInBounds_toArray, List.set_cons_zero, List.set_cons_succ]
      refine held_take (i := 3) (v := (.agg #[.int .i64 pth, .int .i64 pkd, .int .i64 pfi, .int .i64 pla, .int .u64 pnu, .bool pwr, .int .i64 per, .slice ra rn rc, .slice sa sn sc])) 22 rfl rfl (by kernel_rfl) (by kernel_rfl) (by kernel_rfl) rfl (fun w' hw' => by obtain ⟨⟨x0, x1, x2, x3, x4, x5, x6, x7, x8⟩, ⟨y0, y1, y2, y3, y4, y5, y6, y7, y8⟩⟩ := HC.out w' hw'; go_simp) kd ?_
      simp only [Act.put, List.setIfInBounds_toArray, List.set_cons_zero, List.set_cons_succ]
      refine held_take (i := 4) (v := (.slice (some ⟨gb, offb, none⟩) X.length c1)) 23 rfl rfl (by kernel_rfl) (by kernel_rfl) (by kernel_rfl) rfl (fun w' hw' => by obtain ⟨⟨x0, x1, x2, x3, x4, x5, x6, x7, x8⟩, ⟨y0, y1, y2, y3, y4, y5, y6, y7, y8⟩⟩ := HC.out w' hw'; go_simp) kd ?_
      simp only [Act.put, List.setIfInBounds_toArray, List.set_cons_zero, List.set_cons_succ]
      refine held_take (i := 5) (v := (.int .i64 (k : Int))) 24 rfl rfl (by kernel_rfl) (by kernel_rfl) (by kernel_rfl) rfl (fun w' hw' => by obtain ⟨⟨x0, x1, x2, x3, x4, x5, x6, x7, x8⟩, ⟨y0, y1, y2, y3, y4, y5, y6, y7, y8⟩⟩ := HC.out w' hw'; go_simp) kd ?_
      simp only [Act.put, List.setIfInBounds_toArray, List.set_cons_zero, List.set_cons_succ]
      refine held_take (i := 6) (v := (.pointer (some ⟨gb, offb + k * 9, none⟩))) 25 rfl rfl (by kernel_rfl) (by kernel_rfl) (by kernel_rfl) rfl (fun w' hw' => by obtain ⟨⟨x0, x1, x2, x3, x4, x5, x6, x7, x8⟩, ⟨y0, y1, y2, y3, y4, y5, y6, y7, y8⟩⟩ := HC.out w' hw'; go_simp) kd ?_
      simp only [Act.put, List.setIfInBounds_toArray, List.set_cons_zero, List.set_cons_succ]
      refine held_take (i := 7) (v := (.agg #[.int .i64 pth, .int .i64 pkd, .int .i64 pfi, .int .i64 pla, .int .u64 pnu, .bool pwr, .int .i64 per, .slice ta tn tc, .slice ua un uc])) 26 rfl rfl (by kernel_rfl) (by kernel_rfl) (by kernel_rfl) rfl (fun w' hw' => by obtain ⟨⟨x0, x1, x2, x3, x4, x5, x6, x7, x8⟩, ⟨y0, y1, y2, y3, y4, y5, y6, y7, y8⟩⟩ := HC.out w' hw'; go_simp) kd ?_
      simp only [Act.put, List.setIfInBounds_toArray, List.set_cons_zero, List.set_cons_succ]
      refine held_val2 (i := 8) (j := 9) (vi := .pointer (some ⟨wr.heap.size, 0, none⟩)) (vj := .pointer (some ⟨wr.heap.size, 0, none⟩)) (wi := wr.drew.alloc (.cells #[.int .i64 0, .int .i64 0, .int .i64 0, .int .i64 0, .int .u64 0, .bool false, .int .i64 0, .slice none 0 0, .slice none 0 0] 43)) (wj := wr.drew.alloc (.cells #[.int .i64 0, .int .i64 0, .int .i64 0, .int .i64 0, .int .u64 0, .bool false, .int .i64 0, .slice none 0 0, .slice none 0 0] 43)) (some 6) (some 7) (by kernel_rfl) rfl rfl rfl rfl rfl rfl (by go_simp) (by go_simp) kz1 kz1 ?_ ?_
      · simp only [Act.put, List.setIfInBounds_toArray, List.set_cons_zero, List.set_cons_succ]
        refine held_val (i := 9) (v := .pointer (some ⟨wr.heap.size + 1, 0, none⟩)) (w' := (wr.drew.alloc (.cells #[.int .i64 0, .int .i64 0, .int .i64 0, .int .i64 0, .int .u64 0, .bool false, .int .i64 0, .slice none 0 0, .slice none 0 0] 43)).alloc (.cells #[.int .i64 0, .int .i64 0, .int .i64 0, .int .i64 0, .int .u64 0, .bool false, .int .i64 0, .slice none 0 0, .slice none 0 0] 43)) (some 7) (by kernel_rfl) rfl rfl rfl (by go_simp) kz2 ?_
        simp only [Act.put, List.setIfInBounds_toArray, List.set_cons_zero, List.set_cons_succ]
        have t1 := set9 (hz1) (v0 := .int .i64 pth) (v1 := .int .i64 pkd) (v2 := .int .i64 pfi) (v3 := .int .i64 pla) (v4 := .int .u64 pnu) (v5 := .bool pwr) (v6 := .int .i64 per) (v7 := .slice ra rn rc) (v8 := .slice sa sn sc)
        have ks1 := Keeps.setCells9 (S := fun q => q = wr.heap.size) (w := (wr.drew.alloc (.cells #[.int .i64 0, .int .i64 0, .int .i64 0, .int .i64 0, .int .u64 0, .bool false, .int .i64 0, .slice none 0 0, .slice none 0 0] 43)).alloc (.cells #[.int .i64 0, .int .i64 0, .int .i64 0, .int .i64 0, .int .u64 0, .bool false, .int .i64 0, .slice none 0 0, .slice none 0 0] 43)) (b := wr.heap.size) (.inr rfl) [.int .i64 pth, .int .i64 pkd, .int .i64 pfi, .int .i64 pla, .int .u64 pnu, .bool pwr, .int .i64 per, .slice ra rn rc, .slice sa sn sc]
        have o1 := (ks1.block (wr.heap.size + 1) (lt_of_block hz2) (by omega)).trans hz2
        have kS1 := kz2.young ks1 (fun q hq => by omega)
        have th1 : World.there ((wr.drew.alloc (.cells #[.int .i64 0, .int .i64 0, .int .i64 0, .int .i64 0, .int .u64 0, .bool false, .int .i64 0, .slice none 0 0, .slice none 0 0] 43)).alloc (.cells #[.int .i64 0, .int .i64 0, .int .i64 0, .int .i64 0, .int .u64 0, .bool false, .int .i64 0, .slice none 0 0, .slice none 0 0] 43)) (wr.heap.size) 0 9 := there_of hz1 (by simp)
        refine held_none (i := 10) (w' := ((wr.drew.alloc (.cells #[.int .i64 0, .int .i64 0, .int .i64 0, .int .i64 0, .int .u64 0, .bool false, .int .i64 0, .slice none 0 0, .slice none 0 0] 43)).alloc (.cells #[.int .i64 0, .int .i64 0, .int .i64 0, .int .i64 0, .int .u64 0, .bool false, .int .i64 0, .slice none 0 0, .slice none 0 0] 43)).setCells (wr.heap.size) 0 [.int .i64 pth, .int .i64 pkd, .int .i64 pfi, .int .i64 pla, .int .u64 pnu, .bool pwr, .int .i64 per, .slice ra rn rc, .slice sa sn sc]) (by kernel_rfl) rfl rfl rfl (run_store_mid_op rfl (wr.heap.size) 0 #[.int .i64 pth, .int .i64 pkd, .int .i64 pfi, .int .i64 pla, .int .u64 pnu, .bool pwr, .int .i64 per, .slice ra rn rc, .slice sa sn sc] rfl rfl th1 (by kernel_rfl) (by simp [Value.oneCell'])) kS1 ?_
        simp only [List.setIfInBounds_toArray, List.set_cons_zero, List.set_cons_succ]
        generalize ((wr.drew.alloc (.cells #[.int .i64 0, .int .i64 0, .int .i64 0, .int .i64 0, .int .u64 0, .bool false, .int .i64 0, .slice none 0 0, .slice none 0 0] 43)).alloc (.cells #[.int .i64 0, .int .i64 0, .int .i64 0, .int .i64 0, .int .u64 0, .bool false, .int .i64 0, .slice none 0 0, .slice none 0 0] 43)).setCells (wr.heap.size) 0 [.int .i64 pth, .int .i64 pkd, .int .i64 pfi, .int .i64 pla, .int .u64 pnu, .bool pwr, .int .i64 per, .slice ra rn rc, .slice sa sn sc] = V1 at *
        have t2 := set9 o1 (v0 := .int .i64 pth) (v1 := .int .i64 pkd) (v2 := .int .i64 pfi) (v3 := .int .i64 pla) (v4 := .int .u64 pnu) (v5 := .bool pwr) (v6 := .int .i64 per) (v7 := .slice ta tn tc) (v8 := .slice ua un uc)
        have ks2 := Keeps.setCells9 (S := fun q => q = wr.heap.size + 1) (w := V1) (b := wr.heap.size + 1) (.inr rfl) [.int .i64 pth, .int .i64 pkd, .int .i64 pfi, .int .i64 pla, .int .u64 pnu, .bool pwr, .int .i64 per, .slice ta tn tc, .slice ua un uc]
        have t3 := (ks2.block (wr.heap.size) (lt_of_block t1) (by omega)).trans t1
        have kS2 := kS1.young ks2 (fun q hq => by omega)
        have th2 : World.there V1 (wr.heap.size + 1) 0 9 := there_of o1 (by simp)
        refine held_none (i := 11) (w' := V1.setCells (wr.heap.size + 1) 0 [.int .i64 pth, .int .i64 pkd, .int .i64 pfi, .int .i64 pla, .int .u64 pnu, .bool pwr, .int .i64 per, .slice ta tn tc, .slice ua un uc]) (by kernel_rfl) rfl rfl rfl (run_store_mid_op rfl (wr.heap.size + 1) 0 #[.int .i64 pth, .int .i64 pkd, .int .i64 pfi, .int .i64 pla, .int .u64 pnu, .bool pwr, .int .i64 per, .slice ta tn tc, .slice ua un uc] rfl rfl th2 (by kernel_rfl) (by simp [Value.oneCell'])) kS2 ?_
        refine held_end (by kernel_rfl) ?_ _
        generalize V1.setCells (wr.heap.size + 1) 0 [.int .i64 pth, .int .i64 pkd, .int .i64 pfi, .int .i64 pla, .int .u64 pnu, .bool pwr, .int .i64 per, .slice ta tn tc, .slice ua un uc] = V at *
        have KV := kr.trans kS2
        clear t1 ks1 ks2 o1 kS1 kS2 th1 th2 hz1 hz2 kz1 kz2 kd
        obtain ⟨p0, p1, p2, p3, p4, p5, p6, p7, p8⟩ := cells9 t3
        obtain ⟨q0, q1, q2, q3, q4, q5, q6, q7, q8⟩ := cells9 t2
        have R1 := rsen_any (.slice ra rn rc) (.slice ta tn tc) prs (by omega) V (HX.out V KV).1 (HY.out V KV).1
        have HBX : Hid (V.heap[wr.heap.size]? = _ ∧ V.heap[wr.heap.size + 1]? = _) := ⟨t3, t2⟩
        clear t2 t3
        go_wp2_with fail
        refine R1.mono ?_
        rintro ex V2 ⟨rfl, kv2⟩
        have R2 := rsen_any (.slice sa sn sc) (.slice ua un uc) pws (by omega) V2 (HX.out V2 (KV.trans kv2)).2 (HY.out V2 (KV.trans kv2)).2
        obtain ⟨-, -, -, -, -, -, -, -, p8⟩ := cells9 ((kv2.block _ (lt_of_block HBX.out.1) (fun f => f)).trans HBX.out.1)
        obtain ⟨-, -, -, -, -, -, -, -, q8⟩ := cells9 ((kv2.block _ (lt_of_block HBX.out.2) (fun f => f)).trans HBX.out.2)
        clear R1
        go_wp2_with fail
        refine R2.mono ?_
        rintro ex V3 ⟨rfl, kv3⟩
        have K3 := (KV.trans kv2).trans kv3
        clear R2 kv2 kv3 KV
        go_wp2_with fail
        go_roundw
        · exact ⟨k + 1, by simp, by omega, K3⟩
        · simp [intOf]; omega
      · simp only [Act.put, List.setIfInBounds_toArray, List.set_cons_zero, List.set_cons_succ]
        refine held_val (i := 8) (v := .pointer (some ⟨wr.heap.size + 1, 0, none⟩)) (w' := (wr.drew.alloc (.cells #[.int .i64 0, .int .i64 0, .int .i64 0, .int .i64 0, .int .u64 0, .bool false, .int .i64 0, .slice none 0 0, .slice none 0 0] 43)).alloc (.cells #[.int .i64 0, .int .i64 0, .int .i64 0, .int .i64 0, .int .u64 0, .bool false, .int .i64 0, .slice none 0 0, .slice none 0 0] 43)) (some 6) (by kernel_rfl) rfl rfl rfl (by go_simp) kz2 ?_
        simp only [Act.put, List.setIfInBounds_toArray, List.set_cons_zero, List.set_cons_succ]
        have t1 := set9 (hz2) (v0 := .int .i64 pth) (v1 := .int .i64 pkd) (v2 := .int .i64 pfi) (v3 := .int .i64 pla) (v4 := .int .u64 pnu) (v5 := .bool pwr) (v6 := .int .i64 per) (v7 := .slice ra rn rc) (v8 := .slice sa sn sc)
        have ks1 := Keeps.setCells9 (S := fun q => q = wr.heap.size + 1) (w := (wr.drew.alloc (.cells #[.int .i64 0, .int .i64 0, .int .i64 0, .int .i64 0, .int .u64 0, .bool false, .int .i64 0, .slice none 0 0, .slice none 0 0] 43)).alloc (.cells #[.int .i64 0, .int .i64 0, .int .i64 0, .int .i64 0, .int .u64 0, .bool false, .int .i64 0, .slice none 0 0, .slice none 0 0] 43)) (b := wr.heap.size + 1) (.inr rfl) [.int .i64 pth, .int .i64 pkd, .int .i64 pfi, .int .i64 pla, .int .u64 pnu, .bool pwr, .int .i64 per, .slice ra rn rc, .slice sa sn sc]
        have o1 := (ks1.block (wr.heap.size) (lt_of_block hz1) (by omega)).trans hz1
        have kS1 := kz2.young ks1 (fun q hq => by omega)
        have th1 : World.there ((wr.drew.alloc (.cells #[.int .i64 0, .int .i64 0, .int .i64 0, .int .i64 0, .int .u64 0, .bool false, .int .i64 0, .slice none 0 0, .slice none 0 0] 43)).alloc (.cells #[.int .i64 0, .int .i64 0, .int .i64 0, .int .i64 0, .int .u64 0, .bool false, .int .i64 0, .slice none 0 0, .slice none 0 0] 43)) (wr.heap.size + 1) 0 9 := there_of hz2 (by simp)
        refine held_none (i := 10) (w' := ((wr.drew.alloc (.cells #[.int .i64 0, .int .i64 0, .int .i64 0, .int .i64 0, .int .u64 0, .bool false, .int .i64 0, .slice none 0 0, .slice none 0 0] 43)).alloc (.cells #[.int .i64 0, .int .i64 0, .int .i64 0, .int .i64 0, .int .u64 0, .bool false, .int .i64 0, .slice none 0 0, .slice none 0 0] 43)).setCells (wr.heap.size + 1) 0 [.int .i64 pth, .int .i64 pkd, .int .i64 pfi, .int .i64 pla, .int .u64 pnu, .bool pwr, .int .i64 per, .slice ra rn rc, .slice sa sn sc]) (by kernel_rfl) rfl rfl rfl (run_store_mid_op rfl (wr.heap.size + 1) 0 #[.int .i64 pth, .int .i64 pkd, .int .i64 pfi, .int .i64 pla, .int .u64 pnu, .bool pwr, .int .i64 per, .slice ra rn rc, .slice sa sn sc] rfl rfl th1 (by kernel_rfl) (by simp [Value.oneCell'])) kS1 ?_
        simp only [List.setIfInBounds_toArray, List.set_cons_zero, List.set_cons_succ]
        generalize ((wr.drew.alloc (.cells #[.int .i64 0, .int .i64 0, .int .i64 0, .int .i64 0, .int .u64 0, .bool false, .int .i64 0, .slice none 0 0, .slice none 0 0] 43)).alloc (.cells #[.int .i64 0, .int .i64 0, .int .i64 0, .int .i64 0, .int .u64 0, .bool false, .int .i64 0, .slice none 0 0, .slice none 0 0] 43)).setCells (wr.heap.size + 1) 0 [.int .i64 pth, .int .i64 pkd, .int .i64 pfi, .int .i64 pla, .int .u64 pnu, .bool pwr, .int .i64 per, .slice ra rn rc, .slice sa sn sc] = V1 at *
        have t2 := set9 o1 (v0 := .int .i64 pth) (v1 := .int .i64 pkd) (v2 := .int .i64 pfi) (v3 := .int .i64 pla) (v4 := .int .u64 pnu) (v5 := .bool pwr) (v6 := .int .i64 per) (v7 := .slice ta tn tc) (v8 := .slice ua un uc)
        have ks2 := Keeps.setCells9 (S := fun q => q = wr.heap.size) (w := V1) (b := wr.heap.size) (.inr rfl) [.int .i64 pth, .int .i64 pkd, .int .i64 pfi, .int .i64 pla, .int .u64 pnu, .bool pwr, .int .i64 per, .slice ta tn tc, .slice ua un uc]
        have t3 := (ks2.block (wr.heap.size + 1) (lt_of_block t1) (by omega)).trans t1
        have kS2 := kS1.young ks2 (fun q hq => by omega)
        have th2 : World.there V1 (wr.heap.size) 0 9 := there_of o1 (by simp)
        refine held_none (i := 11) (w' := V1.setCells (wr.heap.size) 0 [.int .i64 pth, .int .i64 pkd, .int .i64 pfi, .int .i64 pla, .int .u64 pnu, .bool pwr, .int .i64 per, .slice ta tn tc, .slice ua un uc]) (by kernel_rfl) rfl rfl rfl (run_store_mid_op rfl (wr.heap.size) 0 #[.int .i64 pth, .int .i64 pkd, .int .i64 pfi, .int .i64 pla, .int .u64 pnu, .bool pwr, .int .i64 per, .slice ta tn tc, .slice ua un uc] rfl rfl th2 (by kernel_rfl) (by simp [Value.oneCell'])) kS2 ?_
        refine held_end (by kernel_rfl) ?_ _
        generalize V1.setCells (wr.heap.size) 0 [.int .i64 pth, .int .i64 pkd, .int .i64 pfi, .int .i64 pla, .int .u64 pnu, .bool pwr, .int .i64 per, .slice ta tn tc, .slice ua un uc] = V at *
        have KV := kr.trans kS2
        clear t1 ks1 ks2 o1 kS1 kS2 th1 th2 hz1 hz2 kz1 kz2 kd
        obtain ⟨p0, p1, p2, p3, p4, p5, p6, p7, p8⟩ := cells9 t3
        obtain ⟨q0, q1, q2, q3, q4, q5, q6, q7, q8⟩ := cells9 t2
        have R1 := rsen_any (.slice ra rn rc) (.slice ta tn tc) prs (by omega) V (HX.out V KV).1 (HY.out V KV).1
        have HBX : Hid (V.heap[wr.heap.size + 1]? = _ ∧ V.heap[wr.heap.size]? = _) := ⟨t3, t2⟩
        clear t2 t3
        go_wp2_with fail
        refine R1.mono ?_
        rintro ex V2 ⟨rfl, kv2⟩
        have R2 := rsen_any (.slice sa sn sc) (.slice ua un uc) pws (by omega) V2 (HX.out V2 (KV.trans kv2)).2 (HY.out V2 (KV.trans kv2)).2
        obtain ⟨-, -, -, -, -, -, -, -, p8⟩ := cells9 ((kv2.block _ (lt_of_block HBX.out.1) (fun f => f)).trans HBX.out.1)
        obtain ⟨-, -, -, -, -, -, -, -, q8⟩ := cells9 ((kv2.block _ (lt_of_block HBX.out.2) (fun f => f)).trans HBX.out.2)
        clear R1
        go_wp2_with fail
        refine R2.mono ?_
        rintro ex V3 ⟨rfl, kv3⟩
        have K3 := (KV.trans kv2).trans kv3
        clear R2 kv2 kv3 KV
        go_wp2_with fail
        go_roundw
        · exact ⟨k + 1, by simp, by omega, K3⟩
        · simp [intOf]; omega

    · obtain rfl : k = X.length := by omega
      go_wp2_with fail
      go_ret
      exact ⟨rfl, kr⟩
end Go.Proofs.YtjkileijkgbndaaDoor
