/-
  No statement of the seat is proved here. (Several texts in one: OpL, ALoop2, ALoop3, ALoop4, OpM, OpN, OpNs.)
-/
import Derived.Test.YtjmmjkoloioddaaDoorM12OpJ
import Derived.Test.YtjmmjkoloioddaaDoorM05OpC
import Derived.WalkMore

/- A walk of settle (layer 16). No statement of the seat is proved here. -/
namespace Go.Proofs.YtjmmjkoloioddaaDoor
open Go.RowKit Go.Shelf

theorem Cr.len {l : List (Int × Int)} {n : Int} (h : Cr l n) : (l.length : Int) ≤ n + 1 := by
  have hi : ∀ i, (hi : i < l.length) → (i : Int) ≤ (l[i]).1 := by
    intro i
    induction i with
    | zero => intro hi; have := (h.le _ (List.getElem_mem hi)).1; omega
    | succ i ih =>
      intro hi
      have h1 := ih (by omega)
      have h2 := List.pairwise_iff_getElem.1 h.up i (i + 1) (by omega) hi (by omega)
      omega
  have hne := h.ne
  have h1 := hi (l.length - 1) (by omega)
  have h2 := (h.le _ (List.getElem_mem (show l.length - 1 < l.length by omega))).2
  omega
theorem Keeps.young2 {S T : Nat → Prop} {w a b : World} (h : Keeps T w a) (k : Keeps S a b) (hs : ∀ q, S q → w.heap.size ≤ q) : Keeps T w b :=
  ⟨k.os.trans h.os, k.tape.trans h.tape, k.output.trans h.output, Nat.le_trans h.size k.size, fun q hq ht => (k.block q (Nat.lt_of_lt_of_le hq h.size) (fun f => by have := hs q f; omega)).trans (h.block q hq ht)⟩
/-- The past's block. -/
@[reducible] def pastC (vF vT vB vW : Value) (mb : Nat) : Obj := .cells #[vF, vT, vB, vW, .map (some mb)] 70 (0, 0)
theorem wrt_filter {X : List Bx} {k : Nat} (h : k < X.length) : (X.take (k + 1)).filter (fun x => x.p.wr) = (X.take k).filter (fun x => x.p.wr) ++ (if (X[k]).p.wr then [X[k]] else []) := by
  rw [List.take_succ_eq_append_getElem h, List.filter_append]
  congr 1
  by_cases q : (X[k]).p.wr <;> simp [q]
abbrev oldR (w : World) (base : Nat) (v : Value) (Y : List Bx) : Prop := OwnR Bx.cb 9 81 w base v Y
/-- New blocks may turn. -/
theorem Keeps.old2 {w a b : World} {m : Nat} (h : Keeps (fun q => q = m) w a) (k : Keeps (fun q => q = m ∨ w.heap.size ≤ q) a b) : Keeps (fun q => q = m) w b :=
  ⟨k.os.trans h.os, k.tape.trans h.tape, k.output.trans h.output, Nat.le_trans h.size k.size, fun q hq ht => (k.block q (Nat.lt_of_lt_of_le hq h.size) (fun f => by rcases f with f | f <;> omega)).trans (h.block q hq ht)⟩
/-- What settle leaves. -/
structure SeP (w : World) (pb mb : Nat) (vF vT vB : Value) (F : List Int) (X : List Bx) (w' : World) (vW : Value) (Y : List Bx) (f : Int → Option Sl) (b1 b2 : Nat) : Prop where
  blk : w'.heap[pb]? = some (pastC vF vT vB vW mb)
  row : OwnR Bx.cb 9 81 w' b1 vW Y
  perm : Y.Perm (X.filter fun x => x.p.wr)
  up : Y.Pairwise (fun p q => p.p.la < q.p.la)
  st : StAt w' mb b2 f (setN F (Y.map (·.p)) Y.length)
  kp : Keeps (fun q => q = pb ∨ q = mb) w w'
  lo : w.heap.size ≤ b1 ∧ w.heap.size ≤ b2
set_option maxRecDepth 100000 in
set_option maxHeartbeats 8000000 in
theorem settle_any (pb mb b0 : Nat) (vF vT vB : Value) (F : List Int) (X : List Bx) (hX : X.length ≤ 1050000) (hd : DistL (X.map (·.p))) (hin : ∀ x ∈ X, ∀ e ∈ x.p.ws, 0 ≤ e.1 ∧ e.1 < (F.length : Int)) (hwl : ∀ x ∈ X, x.p.ws.length ≤ 1050000) (hpm : pb ≠ mb) (hpb : pb < b0) (hmb : mb < b0) (w : World) (bp : w.heap[pb]? = some (pastC vF vT vB (.slice none 0 0) mb)) (hm : MapS w mb (fun _ => none)) (hF : WsAt w vF F) (hFb : ∀ a n c, vF = .slice (some a) n c → a.block ≠ pb ∧ a.block ≠ mb) (hB : Bls w b0 vB X) :
    Calls Tryd.prog 31 #[.pointer (some ⟨pb, 0, none⟩)] w fun ex w' => ex = .returned (.tuple #[]) ∧ ∃ vW Y f b1 b2, SeP w pb mb vF vT vB F X w' vW Y f b1 b2 := by
  have hlp := lt_of_block bp
  have hlm := hm.lt
  obtain ⟨va, vcap, rfl, hvc⟩ := (hB.own.els cb_len).shape
  have HX : Hid (∀ Z, Keeps (fun q => q = pb ∨ q = mb) w Z → ElsAt Bx.cb 9 Z (.slice va X.length vcap) X) := fun Z k => (hB.own.keeps k fun g hg => by have := (own_block hB.own.own hg).2; omega).els cb_len
  have HW : Hid (∀ Z, Keeps (fun q => q = pb ∨ q = mb) w Z → ∀ x ∈ X, ElsAt enC 3 Z x.s.v x.p.ws) := fun Z k x hx => ((hB.rws.wt x hx).keeps k fun g hg => by have := (own_block (hB.rws.wt x hx).own hg).2; omega).els en_len
  have HFs : Hid (∀ Z, Keeps (fun q => q = pb ∨ q = mb) w Z → WsAt Z vF F) := fun Z k => hF.keepsB wC_ne k fun a n c e => by have := hFb a n c e; omega
  have HM : Hid (∀ Z, Keeps (fun q => q = pb) w Z → MapS Z mb (fun _ => none)) := fun Z k => hm.keeps k (fun e => hpm e.symm)
  have HI : Hid ((∀ x ∈ X, ∀ e ∈ x.p.ws, 0 ≤ e.1 ∧ e.1 < (F.length : Int)) ∧ DistL (X.map (·.p)) ∧ (∀ x ∈ X, x.p.ws.length ≤ 1050000)) := ⟨hin, hd, hwl⟩
  have HE : Hid (∀ Z, Keeps (fun q => q = pb ∨ q = mb) w Z → ∀ k (hk : k < X.length), ∃ g off, va = some ⟨g, off, none⟩ ∧ ∀ f u, (Bx.cb (X[k]))[f]? = some u → Z.cell? ⟨g, off + k * 9 + f, none⟩ = some u) := fun Z k j hj => (HX.out Z k).at j hj
  have p2 : w.cell? ⟨pb, 2, none⟩ = some (.slice va X.length vcap) := by rw [cell_of_block bp]; rfl
  have O0 := OwnR.nil Bx.cb 9 81 w
  clear hin hd hwl hF hFb hB hm
  go_enter Tryd.func31, Tryd.ntmps31
  go_wp2_with fail
  clear p2
  go_loopw [13] (fun u wr => ∃ (k : Nat) (v3 : Value), u = .int .i64 k ∧ k ≤ X.length ∧ Hid (wr.heap[pb]? = some (pastC vF vT (.slice va X.length vcap) v3 mb) ∧ OwnR Bx.cb 9 81 wr w.heap.size v3 ((X.take k).filter fun x => x.p.wr) ∧ Keeps (fun q => q = pb) w wr)) (fun u _ => X.length - (intOf u).toNat)
  case atStart => exact ⟨0, _, rfl, Nat.zero_le _, ⟨bp, O0, Keeps.refl _ _⟩⟩
  case round =>
    clear O0 bp
    obtain ⟨k, v3, rfl, hk, hh⟩ := hrel
    by_cases hlt : k < X.length
    · have hki : (k : Int) < X.length := by omega
      have hk0 : (0 : Int) ≤ k := by omega
      obtain ⟨bpr, hO, kr⟩ := hh.out
      obtain ⟨g, off, rfl, hc⟩ := HE.out wr (kr.mono fun q _ e => .inl e) k hlt
      have htk := wrt_filter hlt
      have hfl : ((X.take k).filter fun x => x.p.wr).length ≤ 1050000 := Nat.le_trans (List.length_filter_le _ _) (by simp; omega)
      generalize hx : X[k]'hlt = x at *
      clear hx
      obtain ⟨⟨pth, pkd, pfi, pla, pnu, pwr, per, prs, pws, psi, plk⟩, ⟨ra, rn, rc⟩, ⟨sa, sn, sc⟩⟩ := x
      have y0 := hc 0 _ rfl
      have y1 := hc 1 _ rfl
      have y2 := hc 2 _ rfl
      have y3 := hc 3 _ rfl
      have y4 := hc 4 _ rfl
      have y5 := hc 5 _ rfl
      have y6 := hc 6 _ rfl
      have y7 := hc 7 _ rfl
      have y8 := hc 8 _ rfl
      dsimp only at y0 y1 y2 y3 y4 y5 y6 y7 y8
      simp only [Nat.add_zero] at y0
      cases pwr with
      | true =>
        rw [if_pos rfl] at htk
        have kA := (Keeps.refl (fun _ => False) wr).alloc (.cells #[.int .i64 pth, .int .i64 pkd, .int .i64 pfi, .int .i64 pla, .int .u64 pnu, .bool true, .int .i64 per, .slice ra rn rc, .slice sa sn sc] 81)
        have bA := (MapKept.heap_alloc wr (.cells #[.int .i64 pth, .int .i64 pkd, .int .i64 pfi, .int .i64 pla, .int .u64 pnu, .bool true, .int .i64 per, .slice ra rn rc, .slice sa sn sc] 81)).1
        have bpA := (kA.block pb (lt_of_block bpr) (fun f => f)).trans bpr
        have hsA : (wr.alloc (.cells #[.int .i64 pth, .int .i64 pkd, .int .i64 pfi, .int .i64 pla, .int .u64 pnu, .bool true, .int .i64 per, .slice ra rn rc, .slice sa sn sc] 81)).heap.size = wr.heap.size + 1 := by simp
        obtain ⟨A, hA⟩ : ∃ A, A = wr.alloc (.cells #[.int .i64 pth, .int .i64 pkd, .int .i64 pfi, .int .i64 pla, .int .u64 pnu, .bool true, .int .i64 per, .slice ra rn rc, .slice sa sn sc] 81) := ⟨_, rfl⟩
        rw [← hA] at kA bA bpA hsA
        have oA := hO.keeps (w' := A.drew) kA.drew (fun _ _ f => f)
        obtain ⟨v', w3, r1, r2, r3⟩ := oA.push cb_len cb_one (by decide) Tryd.underlying68 info_blk rfl (by decide) (ty := 68) ⟨⟨pth, pkd, pfi, pla, pnu, true, per, prs, pws, psi, plk⟩, ⟨ra, rn, rc⟩, ⟨sa, sn, sc⟩⟩ (cs := #[.int .i64 pth, .int .i64 pkd, .int .i64 pfi, .int .i64 pla, .int .u64 pnu, .bool true, .int .i64 per, .slice ra rn rc, .slice sa sn sc]) rfl (by omega)
        rw [← htk] at r2
        have hpv : ¬ v3.ownBlock = some pb := fun e => by have := (own_block hO.own e).2; omega
        have hpv' : ∀ q, v'.ownBlock = some q → q ≠ pb := fun q hq e => by have := (own_block r2.own hq).2; omega
        have bp3 : w3.heap[pb]? = some (pastC vF vT (.slice (some ⟨g, off, none⟩) X.length vcap) v3 mb) := (r3.keeps.block pb (lt_of_block (w := A.drew) bpA) hpv).trans bpA
        have kS := (Keeps.refl (fun q => q = pb) w3).setCell (p := ⟨pb, 3, none⟩) (.inr rfl) v'
        have K3 : Keeps (fun q => q = pb) w w3 := ((kr.trans (kA.mono fun _ _ f => f.elim)).drew).young2 (r3.keeps) (fun q hq => (own_block hO.own hq).2)
        have HF : Hid ((w3.setCell ⟨pb, 3, none⟩ v').heap[pb]? = some (pastC vF vT (.slice (some ⟨g, off, none⟩) X.length vcap) v' mb) ∧ OwnR Bx.cb 9 81 (w3.setCell ⟨pb, 3, none⟩ v') w.heap.size v' ((X.take (k + 1)).filter fun x => x.p.wr) ∧ Keeps (fun q => q = pb) w (w3.setCell ⟨pb, 3, none⟩ v')) := ⟨block_set bp3 3 v', r2.keeps kS (fun q hq e => hpv' q hq e), K3.setCell (.inr rfl) _⟩
        have cellsA : ∀ i u, (#[.int .i64 pth, .int .i64 pkd, .int .i64 pfi, .int .i64 pla, .int .u64 pnu, .bool true, .int .i64 per, .slice ra rn rc, .slice sa sn sc] : Array Value)[i]? = some u → A.drew.cell? ⟨wr.heap.size, i, none⟩ = some u := fun i u hu => by rw [cell_of_block (w := A.drew) bA]; exact hu
        have hne : ¬ v3.ownBlock = some wr.heap.size := fun e => by have := (own_block hO.own e).1; omega
        have S0 : A.drew.cell? ⟨pb, 3, none⟩ = some v3 ∧ A.drew.cell? ⟨wr.heap.size, 0, none⟩ = some (.int .i64 pth) ∧ A.drew.cell? ⟨wr.heap.size, 1, none⟩ = some (.int .i64 pkd) ∧ A.drew.cell? ⟨wr.heap.size, 2, none⟩ = some (.int .i64 pfi) ∧ A.drew.cell? ⟨wr.heap.size, 3, none⟩ = some (.int .i64 pla) ∧ A.drew.cell? ⟨wr.heap.size, 4, none⟩ = some (.int .u64 pnu) ∧ A.drew.cell? ⟨wr.heap.size, 5, none⟩ = some (.bool true) ∧ A.drew.cell? ⟨wr.heap.size, 6, none⟩ = some (.int .i64 per) ∧ A.drew.cell? ⟨wr.heap.size, 7, none⟩ = some (.slice ra rn rc) ∧ A.drew.cell? ⟨wr.heap.size, 8, none⟩ = some (.slice sa sn sc) := ⟨by rw [cell_of_block (w := A.drew) bpA]; rfl, cellsA 0 _ rfl, cellsA 1 _ rfl, cellsA 2 _ rfl, cellsA 3 _ rfl, cellsA 4 _ rfl, cellsA 5 _ rfl, cellsA 6 _ rfl, cellsA 7 _ rfl, cellsA 8 _ rfl⟩
        have kC := (Keeps.refl (fun _ => False) A.drew).alloc (.cells #[.int .i64 pth, .int .i64 pkd, .int .i64 pfi, .int .i64 pla, .int .u64 pnu, .bool true, .int .i64 per, .slice ra rn rc, .slice sa sn sc] 81)
        have S1 : (A.drew.alloc (.cells #[.int .i64 pth, .int .i64 pkd, .int .i64 pfi, .int .i64 pla, .int .u64 pnu, .bool true, .int .i64 per, .slice ra rn rc, .slice sa sn sc] 81)).cell? ⟨pb, 3, none⟩ = some v3 ∧ (A.drew.alloc (.cells #[.int .i64 pth, .int .i64 pkd, .int .i64 pfi, .int .i64 pla, .int .u64 pnu, .bool true, .int .i64 per, .slice ra rn rc, .slice sa sn sc] 81)).cell? ⟨wr.heap.size, 0, none⟩ = some (.int .i64 pth) ∧ (A.drew.alloc (.cells #[.int .i64 pth, .int .i64 pkd, .int .i64 pfi, .int .i64 pla, .int .u64 pnu, .bool true, .int .i64 per, .slice ra rn rc, .slice sa sn sc] 81)).cell? ⟨wr.heap.size, 1, none⟩ = some (.int .i64 pkd) ∧ (A.drew.alloc (.cells #[.int .i64 pth, .int .i64 pkd, .int .i64 pfi, .int .i64 pla, .int .u64 pnu, .bool true, .int .i64 per, .slice ra rn rc, .slice sa sn sc] 81)).cell? ⟨wr.heap.size, 2, none⟩ = some (.int .i64 pfi) ∧ (A.drew.alloc (.cells #[.int .i64 pth, .int .i64 pkd, .int .i64 pfi, .int .i64 pla, .int .u64 pnu, .bool true, .int .i64 per, .slice ra rn rc, .slice sa sn sc] 81)).cell? ⟨wr.heap.size, 3, none⟩ = some (.int .i64 pla) ∧ (A.drew.alloc (.cells #[.int .i64 pth, .int .i64 pkd, .int .i64 pfi, .int .i64 pla, .int .u64 pnu, .bool true, .int .i64 per, .slice ra rn rc, .slice sa sn sc] 81)).cell? ⟨wr.heap.size, 4, none⟩ = some (.int .u64 pnu) ∧ (A.drew.alloc (.cells #[.int .i64 pth, .int .i64 pkd, .int .i64 pfi, .int .i64 pla, .int .u64 pnu, .bool true, .int .i64 per, .slice ra rn rc, .slice sa sn sc] 81)).cell? ⟨wr.heap.size, 5, none⟩ = some (.bool true) ∧ (A.drew.alloc (.cells #[.int .i64 pth, .int .i64 pkd, .int .i64 pfi, .int .i64 pla, .int .u64 pnu, .bool true, .int .i64 per, .slice ra rn rc, .slice sa sn sc] 81)).cell? ⟨wr.heap.size, 6, none⟩ = some (.int .i64 per) ∧ (A.drew.alloc (.cells #[.int .i64 pth, .int .i64 pkd, .int .i64 pfi, .int .i64 pla, .int .u64 pnu, .bool true, .int .i64 per, .slice ra rn rc, .slice sa sn sc] 81)).cell? ⟨wr.heap.size, 7, none⟩ = some (.slice ra rn rc) ∧ (A.drew.alloc (.cells #[.int .i64 pth, .int .i64 pkd, .int .i64 pfi, .int .i64 pla, .int .u64 pnu, .bool true, .int .i64 per, .slice ra rn rc, .slice sa sn sc] 81)).cell? ⟨wr.heap.size, 8, none⟩ = some (.slice sa sn sc) := ⟨kC.cellB (fun f => f) S0.1, kC.cellB (fun f => f) S0.2.1, kC.cellB (fun f => f) S0.2.2.1, kC.cellB (fun f => f) S0.2.2.2.1, kC.cellB (fun f => f) S0.2.2.2.2.1, kC.cellB (fun f => f) S0.2.2.2.2.2.1, kC.cellB (fun f => f) S0.2.2.2.2.2.2.1, kC.cellB (fun f => f) S0.2.2.2.2.2.2.2.1, kC.cellB (fun f => f) S0.2.2.2.2.2.2.2.2.1, kC.cellB (fun f => f) S0.2.2.2.2.2.2.2.2.2⟩
        have S2 : w3.cell? ⟨pb, 3, none⟩ = some v3 ∧ w3.cell? ⟨wr.heap.size, 0, none⟩ = some (.int .i64 pth) ∧ w3.cell? ⟨wr.heap.size, 1, none⟩ = some (.int .i64 pkd) ∧ w3.cell? ⟨wr.heap.size, 2, none⟩ = some (.int .i64 pfi) ∧ w3.cell? ⟨wr.heap.size, 3, none⟩ = some (.int .i64 pla) ∧ w3.cell? ⟨wr.heap.size, 4, none⟩ = some (.int .u64 pnu) ∧ w3.cell? ⟨wr.heap.size, 5, none⟩ = some (.bool true) ∧ w3.cell? ⟨wr.heap.size, 6, none⟩ = some (.int .i64 per) ∧ w3.cell? ⟨wr.heap.size, 7, none⟩ = some (.slice ra rn rc) ∧ w3.cell? ⟨wr.heap.size, 8, none⟩ = some (.slice sa sn sc) := ⟨r3.keeps.cellB hpv S0.1, r3.keeps.cellB hne S0.2.1, r3.keeps.cellB hne S0.2.2.1, r3.keeps.cellB hne S0.2.2.2.1, r3.keeps.cellB hne S0.2.2.2.2.1, r3.keeps.cellB hne S0.2.2.2.2.2.1, r3.keeps.cellB hne S0.2.2.2.2.2.2.1, r3.keeps.cellB hne S0.2.2.2.2.2.2.2.1, r3.keeps.cellB hne S0.2.2.2.2.2.2.2.2.1, r3.keeps.cellB hne S0.2.2.2.2.2.2.2.2.2⟩
        have fz : w3.frozen? ⟨pb, 3, none⟩ = false := frozen_of_block bp3 _
        have AA : A.drew.heap.size = A.heap.size := rfl
        rw [AA] at r1
        obtain ⟨ub, uc, rfl⟩ := hO.form
        obtain ⟨⟨ta, tn, tc⟩, rfl, -⟩ := sl_of r2
        dsimp only [Sl.v] at r1 HF
        have HA : Hid (_ = _) := r1
        generalize ((X.take k).filter fun x => x.p.wr).length = m1 at *
        have HAA : Hid (A = _) := hA
        clear r1 r2 r3 oA bpA bA kA kC kS K3 hO hh bpr hsA htk hpv hpv' cellsA hne AA hc bp3 hfl
        go_wp2_with fail
        rw [← hA]
        clear y0 y1 y2 y3 y4 y5 y6 y7 y8
        clear hA
        refine wp_until (S := (fun W : World => W.cell? ⟨pb, 3, none⟩ = some (.slice ub m1 uc) ∧ W.cell? ⟨wr.heap.size, 0, none⟩ = some (.int .i64 pth) ∧ W.cell? ⟨wr.heap.size, 1, none⟩ = some (.int .i64 pkd) ∧ W.cell? ⟨wr.heap.size, 2, none⟩ = some (.int .i64 pfi) ∧ W.cell? ⟨wr.heap.size, 3, none⟩ = some (.int .i64 pla) ∧ W.cell? ⟨wr.heap.size, 4, none⟩ = some (.int .u64 pnu) ∧ W.cell? ⟨wr.heap.size, 5, none⟩ = some (.bool true) ∧ W.cell? ⟨wr.heap.size, 6, none⟩ = some (.int .i64 per) ∧ W.cell? ⟨wr.heap.size, 7, none⟩ = some (.slice ra rn rc) ∧ W.cell? ⟨wr.heap.size, 8, none⟩ = some (.slice sa sn sc))) 10 11 rfl hmxp ?_
        simp only [Array.replicate_succ, Array.replicate_zero, List.push_toArray, List.nil_append, List.cons_append]
        refine u_take (i := 0) (v := (.pointer (some ⟨pb, 0, none⟩))) 19 rfl rfl (by kernel_rfl) (by kernel_rfl) (by kernel_rfl) (by kernel_rfl) rfl (fun w' hw' => by obtain ⟨q0, q1, q2, q3, q4, q5, q6, q7, q8, q9⟩ := hw'; go_simp) S0 ?_
        simp only [Act.put, List.setIfInBounds_toArray, List.set_cons_zero, List.set_cons_succ]
        refine u_take (i := 1) (v := (.pointer (some ⟨pb, 0, none⟩))) 20 rfl rfl (by kernel_rfl) (by kernel_rfl) (by kernel_rfl) (by kernel_rfl) rfl (fun w' hw' => by obtain ⟨q0, q1, q2, q3, q4, q5, q6, q7, q8, q9⟩ := hw'; go_simp) S0 ?_
        simp only [Act.put, List.setIfInBounds_toArray, List.set_cons_zero, List.set_cons_succ]
        refine u_take (i := 2) (v := (.pointer (some ⟨pb, 0, none⟩))) 21 rfl rfl (by kernel_rfl) (by kernel_rfl) (by kernel_rfl) (by kernel_rfl) rfl (fun w' hw' => by obtain ⟨q0, q1, q2, q3, q4, q5, q6, q7, q8, q9⟩ := hw'; go_simp) S0 ?_
        simp only [Act.put, List.setIfInBounds_toArray, List.set_cons_zero, List.set_cons_succ]
        refine u_take (i := 3) (v := (.pointer (some ⟨pb, 3, none⟩))) 22 rfl rfl (by kernel_rfl) (by kernel_rfl) (by kernel_rfl) (by kernel_rfl) rfl (fun w' hw' => by obtain ⟨q0, q1, q2, q3, q4, q5, q6, q7, q8, q9⟩ := hw'; go_simp) S0 ?_
        simp only [Act.put, List.setIfInBounds_toArray, List.set_cons_zero, List.set_cons_succ]
        refine u_take (i := 4) (v := (.slice ub m1 uc)) 23 rfl rfl (by kernel_rfl) (by kernel_rfl) (by kernel_rfl) (by kernel_rfl) rfl (fun w' hw' => by obtain ⟨q0, q1, q2, q3, q4, q5, q6, q7, q8, q9⟩ := hw'; go_simp) S0 ?_
        simp only [Act.put, List.setIfInBounds_toArray, List.set_cons_zero, List.set_cons_succ]
        refine u_take (i := 5) (v := (.agg #[.int .i64 pth, .int .i64 pkd, .int .i64 pfi, .int .i64 pla, .int .u64 pnu, .bool true, .int .i64 per, .slice ra rn rc, .slice sa sn sc])) 24 rfl rfl (by kernel_rfl) (by kernel_rfl) (by kernel_rfl) (by kernel_rfl) rfl (fun w' hw' => by obtain ⟨q0, q1, q2, q3, q4, q5, q6, q7, q8, q9⟩ := hw'; go_simp) S0 ?_
        simp only [Act.put, List.setIfInBounds_toArray, List.set_cons_zero, List.set_cons_succ]
        refine u_val (i := 6) (v := (.slice (some ⟨A.heap.size, 0, none⟩) 1 1)) (w' := A.drew.alloc (.cells #[.int .i64 pth, .int .i64 pkd, .int .i64 pfi, .int .i64 pla, .int .u64 pnu, .bool true, .int .i64 per, .slice ra rn rc, .slice sa sn sc] 81)) (some 25) (by kernel_rfl) rfl rfl rfl (by go_simp) S1 ?_
        simp only [Act.put, List.setIfInBounds_toArray, List.set_cons_zero, List.set_cons_succ]
        refine u_val (i := 7) (v := (.slice ta tn tc)) (w' := w3) (some 26) (by kernel_rfl) rfl rfl rfl (run_append_op rfl rfl rfl HA.out) S2 ?_
        simp only [Act.put, List.setIfInBounds_toArray, List.set_cons_zero, List.set_cons_succ]
        refine u_val (i := 8) (v := (.pointer (some ⟨pb, 0, none⟩))) (w' := w3) (some 27) (by kernel_rfl) rfl rfl rfl (by go_simp) S2 ?_
        simp only [Act.put, List.setIfInBounds_toArray, List.set_cons_zero, List.set_cons_succ]
        refine u_val (i := 9) (v := (.pointer (some ⟨pb, 3, none⟩))) (w' := w3) (some 28) (by kernel_rfl) rfl rfl rfl (by go_simp) S2 ?_
        simp only [Act.put, List.setIfInBounds_toArray, List.set_cons_zero, List.set_cons_succ]
        refine u_last (w' := w3.setCell ⟨pb, 3, none⟩ (.slice ta tn tc)) (by kernel_rfl) rfl rfl rfl (by obtain ⟨q0, _⟩ := S2; go_simp) (by kernel_rfl) ?_
        clear S0 S1 S2 fz HA HAA
        generalize w3.setCell ⟨pb, 3, none⟩ (.slice ta tn tc) = Z at *
        go_wp2_with fail
        go_roundw
        · exact ⟨k + 1, _, by simp, by omega, HF.out⟩
        · simp [intOf]; omega
      | false =>
        rw [if_neg Bool.false_ne_true, List.append_nil] at htk
        have kA := (Keeps.refl (fun _ => False) wr).alloc (.cells #[.int .i64 pth, .int .i64 pkd, .int .i64 pfi, .int .i64 pla, .int .u64 pnu, .bool false, .int .i64 per, .slice ra rn rc, .slice sa sn sc] 81)
        have HF : Hid ((wr.alloc (.cells #[.int .i64 pth, .int .i64 pkd, .int .i64 pfi, .int .i64 pla, .int .u64 pnu, .bool false, .int .i64 per, .slice ra rn rc, .slice sa sn sc] 81)).heap[pb]? = some (pastC vF vT (.slice (some ⟨g, off, none⟩) X.length vcap) v3 mb) ∧ OwnR Bx.cb 9 81 (wr.alloc (.cells #[.int .i64 pth, .int .i64 pkd, .int .i64 pfi, .int .i64 pla, .int .u64 pnu, .bool false, .int .i64 per, .slice ra rn rc, .slice sa sn sc] 81)) w.heap.size v3 ((X.take (k + 1)).filter fun x => x.p.wr) ∧ Keeps (fun q => q = pb) w (wr.alloc (.cells #[.int .i64 pth, .int .i64 pkd, .int .i64 pfi, .int .i64 pla, .int .u64 pnu, .bool false, .int .i64 per, .slice ra rn rc, .slice sa sn sc] 81))) := ⟨(kA.block pb (lt_of_block bpr) (fun f => f)).trans bpr, by rw [htk]; exact hO.keeps kA (fun _ _ f => f), kr.trans (kA.mono fun _ _ f => f.elim)⟩
        clear kA hO hh bpr htk hc hfl
        go_wp2_with fail
        go_roundw
        · exact ⟨k + 1, _, by simp, by omega, HF.out⟩
        · simp [intOf]; omega
    · obtain rfl : k = X.length := by omega
      obtain ⟨bpr, hO, kr⟩ := hh.out
      rw [List.take_length] at hO
      clear hh HE
      have hfl : (X.filter fun x => x.p.wr).length ≤ X.length := List.length_filter_le _ _
      have SO := sortB_any (X.filter fun x => x.p.wr) (by omega) hO
      have q3 : wr.cell? ⟨pb, 3, none⟩ = some v3 := by rw [cell_of_block bpr]; rfl
      have hpv : ∀ q, v3.ownBlock = some q → w.heap.size ≤ q := fun q e => (own_block hO.own e).2
      obtain ⟨ub, uc, rfl⟩ := hO.form
      generalize hfz : (X.filter fun x => x.p.wr).length = m1 at *
      have HM1 : Hid ((X.filter fun x => x.p.wr).length = m1) := hfz
      clear hfz
      go_wp2_with fail
      refine SO.mono ?_
      rintro ex w2 ⟨rfl, Y, oY, hperm, hsort, k2⟩
      clear SO q3
      have K2 : Keeps (fun q => q = pb) w w2 := kr.young2 k2 hpv
      have bp2 : w2.heap[pb]? = some (pastC vF vT (.slice va X.length vcap) (.slice ub m1 uc) mb) := (k2.block pb (lt_of_block bpr) (fun e => by have := hpv _ e; omega)).trans bpr
      have hYl : Y.length = m1 := by rw [hperm.length_eq, HM1.out]
      have hYX : ∀ y ∈ Y, y ∈ X := fun y hy => (List.mem_filter.1 (hperm.mem_iff.1 hy)).1
      have hup : Y.Pairwise (fun p q => p.p.la < q.p.la) := by
        have hd : DistL (Y.map (·.p)) := by
          unfold DistL
          have h1 : ((X.filter fun x => x.p.wr).map (fun x => x.p.la)).Sublist (X.map fun x => x.p.la) := List.Sublist.map _ List.filter_sublist
          have h2 : (X.map fun x => x.p.la).Nodup := by have := HI.out.2.1; unfold DistL at this; rw [List.map_map] at this; exact this
          rw [List.map_map]
          exact (hperm.map _).nodup_iff.2 (h1.nodup h2)
        have := wr_strict (Z := Y.map (·.p)) hd (List.pairwise_map.2 hsort)
        rw [List.pairwise_map] at this
        exact this
      have SI : Hid (∀ k, k ≤ (Y.map (·.p)).length → SInv F (setN F (Y.map (·.p)) k) k (fun m => stN F (Y.map (·.p)) (min m.toNat k))) := sinv_all fun p hp e he => by
        obtain ⟨y, hy, rfl⟩ := List.mem_map.1 hp
        exact HI.out.1 y (hYX y hy) e he
      have hm2 := HM.out w2 K2
      have ST0 : StAt w2 mb w2.heap.size (fun _ => none) (setN F (Y.map (·.p)) 0) := ⟨hm2, fun _ => rfl, fun a s e => (by cases e), fun a b s t q e => (by cases e), hm2.lt⟩
      have eY := oY.els cb_len
      have HY : Hid (∀ Z, Keeps (fun q => q = mb) w2 Z → ElsAt Bx.cb 9 Z (.slice ub m1 uc) Y) := fun Z k => (oY.keeps k fun g hg e => by have := (own_block oY.own hg).2; omega).els cb_len
      have HK : Hid (∀ Z, Keeps (fun q => q = mb) w2 Z → Keeps (fun q => q = pb ∨ q = mb) w Z) := fun Z k => (K2.mono fun q _ e => .inl e).trans (k.mono fun q _ e => .inr e)
      have HP : Hid (∀ Z, Keeps (fun q => q = mb) w2 Z → Z.heap[pb]? = some (pastC vF vT (.slice va X.length vcap) (.slice ub m1 uc) mb)) := fun Z k => (k.block pb (lt_of_block bp2) (fun e => hpm e)).trans bp2
      have HPC : Hid (∀ Z, Keeps (fun q => q = mb) w2 Z → Z.cell? ⟨pb, 0, none⟩ = some vF ∧ Z.cell? ⟨pb, 4, none⟩ = some (.map (some mb))) := fun Z k => ⟨by rw [cell_of_block (HP.out Z k)]; rfl, by rw [cell_of_block (HP.out Z k)]; rfl⟩
      have p3 : w2.cell? ⟨pb, 3, none⟩ = some (.slice ub m1 uc) := by rw [cell_of_block bp2]; rfl
      have HR : Hid (oldR w2 w.heap.size (.slice ub m1 uc) Y ∧ Y.Perm (X.filter fun x => x.p.wr) ∧ Y.Pairwise (fun p q => p.p.la < q.p.la) ∧ w.heap.size ≤ w2.heap.size) := ⟨oY, hperm, hup, K2.size⟩
      have HQ : Hid (∀ y ∈ Y, y ∈ X) := hYX
      have hm1 : m1 ≤ 1050000 := by have := HM1.out; omega
      have HYl : Hid (Y.length = m1) := hYl
      have hs2 : pb < w2.heap.size := lt_of_block bp2
      clear hYl oY hperm hsort hup hYX eY bp2 bpr hO kr k2 K2 hpv hm2 hfl
      go_wp2_with fail
      clear p3
      go_loopw [40] (fun u wr => ∃ (n : Nat) (f : Int → Option Sl), u = .int .i64 n ∧ n ≤ m1 ∧ Hid (StAt wr mb w2.heap.size f (setN F (Y.map (·.p)) n)) ∧ Keeps (fun q => q = mb) w2 wr) (fun u _ => m1 - (intOf u).toNat)
      case atStart => exact ⟨0, _, rfl, Nat.zero_le _, ST0, Keeps.refl _ _⟩
      case round =>
        clear ST0
        obtain ⟨W1, hW1⟩ : ∃ W1, W1 = wr := ⟨_, rfl⟩
        subst hW1
        obtain ⟨n, f, rfl, hn, hst, kn⟩ := hrel
        by_cases hltn : n < m1
        · have hni : (n : Int) < m1 := by omega
          have hn0 : (0 : Int) ≤ n := by omega
          have hnY : n < Y.length := by have := HYl.out; omega
          obtain ⟨g, off, rfl, hc⟩ := (HY.out W1 kn).at n hnY
          have hyX := HQ.out (Y[n]) (List.getElem_mem hnY)
          have HWn : Hid (∀ Z, Keeps (fun q => q = mb) w2 Z → ElsAt enC 3 Z (Y[n]).s.v (Y[n]).p.ws) := fun Z k => HW.out Z (HK.out Z k) _ hyX
          have hwn := HI.out.2.2 _ hyX
          have HIn : Hid (∀ e ∈ (Y[n]).p.ws, 0 ≤ e.1 ∧ e.1 < (F.length : Int)) := HI.out.1 _ hyX
          have HSn : Hid (setN F (Y.map (·.p)) (n + 1) = putW F (setN F (Y.map (·.p)) n) ((n : Int) + 1) (Y[n]).p.ws) := by
            show putW F (setN F (Y.map (·.p)) n) ((n : Int) + 1) (((Y.map (·.p))[n]?).getD pt0).ws = _
            rw [List.getElem?_map, List.getElem?_eq_getElem hnY]; rfl
          have wn1 : IntKind.i64.wrap ((n : Int) + 1) = (n : Int) + 1 := by rw [IntKind.wrap_i64]; omega
          generalize hy : Y[n]'hnY = y at *
          clear hy hyX
          obtain ⟨⟨pth, pkd, pfi, pla, pnu, pwr, per, prs, pws, psi, plk⟩, ⟨ra, rn, rc⟩, ⟨sa, sn, sc⟩⟩ := y
          dsimp only [Sl.v] at HWn HIn HSn hwn
          obtain ⟨sa', cap', hsv, hcap'⟩ := (HWn.out W1 kn).shape
          injection hsv with e1 e2 e3
          subst e1 e2 e3
          have y0 := hc 0 _ rfl
          have y1 := hc 1 _ rfl
          have y2 := hc 2 _ rfl
          have y3 := hc 3 _ rfl
          have y4 := hc 4 _ rfl
          have y5 := hc 5 _ rfl
          have y6 := hc 6 _ rfl
          have y7 := hc 7 _ rfl
          have y8 := hc 8 _ rfl
          dsimp only at y0 y1 y2 y3 y4 y5 y6 y7 y8
          simp only [Nat.add_zero] at y0
          have kA := kn.trans (((Keeps.refl (fun _ => False) W1).alloc (.cells #[.int .i64 pth, .int .i64 pkd, .int .i64 pfi, .int .i64 pla, .int .u64 pnu, .bool pwr, .int .i64 per, .slice ra rn rc, .slice sa pws.length sc] 81)).mono fun _ _ f => f.elim)
          have ST1 : Hid (StAt (W1.alloc (.cells #[.int .i64 pth, .int .i64 pkd, .int .i64 pfi, .int .i64 pla, .int .u64 pnu, .bool pwr, .int .i64 per, .slice ra rn rc, .slice sa pws.length sc] 81)) mb w2.heap.size f (putW F (setN F (Y.map (·.p)) n) ((n : Int) + 1) (pws.take 0))) := hst.out.keeps ((Keeps.refl (fun _ => False) W1).alloc (.cells #[.int .i64 pth, .int .i64 pkd, .int .i64 pfi, .int .i64 pla, .int .u64 pnu, .bool pwr, .int .i64 per, .slice ra rn rc, .slice sa pws.length sc] 81)) (fun f => f) (fun _ _ _ f => f)
          clear hst hc
          go_wp2_with fail
          clear y0 y1 y2 y3 y4 y5 y6 y7 y8
          go_loopw [48] (fun u wr => ∃ (j : Nat) (f : Int → Option Sl), u = .int .i64 j ∧ j ≤ pws.length ∧ Hid (StAt wr mb w2.heap.size f (putW F (setN F (Y.map (·.p)) n) ((n : Int) + 1) (pws.take j))) ∧ Keeps (fun q => q = mb) w2 wr) (fun u _ => pws.length - (intOf u).toNat)
          case atStart => exact ⟨0, _, rfl, Nat.zero_le _, ST1, kA⟩
          case round =>
            clear ST1 kA
            obtain ⟨j, f, rfl, hj, hst, kj⟩ := hrel
            by_cases hltj : j < pws.length
            · have hji : (j : Int) < pws.length := by omega
              have hj0 : (0 : Int) ≤ j := by omega
              obtain ⟨g2, off2, rfl, hc⟩ := (HWn.out wr kj).at j hltj
              have hine := HIn.out _ (List.getElem_mem hltj)
              have htk : pws.take (j + 1) = pws.take j ++ [pws[j]] := List.take_succ_eq_append_getElem hltj
              have hpu := putW_push F (setN F (Y.map (·.p)) n) ((n : Int) + 1) (pws.take j) (pws[j])
              rw [← htk] at hpu
              have hsi := sinv_in (W := Y.map (·.p)) (SI.out n (by have := HYl.out; simp; omega)) HIn.out j (by omega)
              have hcr := hsi.cr (pws[j]).1 hine.1 hine.2
              have hcl := hcr.len
              generalize hx : pws[j]'hltj = x at *
              clear hx
              obtain ⟨ad, wd⟩ := x
              have y0 := hc 0 _ rfl
              have y1 := hc 1 _ rfl
              have y2 := hc 2 _ rfl
              dsimp only at y0 y1 y2 hine hcr hcl
              simp only [Nat.add_zero] at y0
              have kB := (Keeps.refl (fun _ => False) wr).alloc (.cells #[.int .u64 ad, .int .u64 wd, .bool false] 91)
              have hsz := kj.size
              have kjB := kj.trans (kB.mono fun _ _ f => f.elim)
              have WR := write_any pb mb w2.heap.size f _ ((n : Int) + 1) _ ad wd vF F (by omega) hine.1 hine.2 hcr (by have : (if j = 0 then (n : Int) else (n : Int) + 1) ≤ (n : Int) + 1 := (by split <;> omega); omega) (wr.alloc (.cells #[.int .u64 ad, .int .u64 wd, .bool false] 91)) (HPC.out _ kjB).1 (HPC.out _ kjB).2 hs2 kjB.size (HFs.out _ (HK.out _ kjB)) (hst.out.keeps kB (fun f => f) (fun _ _ _ f => f))
              unfold WrP at WR
              rw [← hpu] at WR
              clear hst hc hine htk hpu hsi hcr hcl
              go_wp2_with fail
              refine WR.mono ?_
              rintro ex w5 ⟨rfl, ⟨f', st5⟩, k5⟩
              have HF : Hid (StAt w5 mb w2.heap.size f' (putW F (setN F (Y.map (·.p)) n) ((n : Int) + 1) (pws.take (j + 1))) ∧ Keeps (fun q => q = mb) w2 w5) := ⟨st5, kjB.old2 k5⟩
              clear WR st5 k5 kB kjB y0 y1 y2
              go_wp2_with fail
              go_roundw
              · exact ⟨j + 1, f', by simp, by omega, HF.out.1, HF.out.2⟩
              · simp [intOf]; omega
            · obtain rfl : j = pws.length := by omega
              have HF : Hid (StAt wr mb w2.heap.size f (setN F (Y.map (·.p)) (n + 1))) := by rw [HSn.out]; have := hst.out; rw [List.take_length] at this; exact this
              clear hst
              go_wp2_with fail
              go_roundw
              · exact ⟨n + 1, f, by simp, by omega, HF.out, kj⟩
              · simp [intOf]; omega
        · obtain rfl : n = m1 := by omega
          have HF : Hid (∃ vW Y f b1 b2, SeP w pb mb vF vT (.slice va X.length vcap) F X W1 vW Y f b1 b2) := by
            obtain ⟨oY, hperm, hup, hle⟩ := HR.out
            refine ⟨.slice ub n uc, Y, f, w.heap.size, w2.heap.size, HP.out _ kn, OwnR.keeps oY kn (fun g hg e => by have := (own_block (OwnR.own oY) hg).2; omega), hperm, hup, ?_, HK.out _ kn, Nat.le_refl _, hle⟩
            rw [HYl.out]; exact hst.out
          clear hst
          go_wp2_with fail
          go_end0
          exact ⟨rfl, HF.out⟩
end Go.Proofs.YtjmmjkoloioddaaDoor


/-
  A loop over a function whose rounds may count on more than cells: what the loop's own book-keeping turns is its record, and nothing else. No statement of the seat is proved here.
-/
namespace Go.Proofs.YtjmmjkoloioddaaDoor
open Go.RowKit Go.Shelf

section
variable {F : Fence} {n : Nat} {P : Program} {α : Type}

/-- What a round begins and ends with: the loop's record, the block of deferred calls. -/
structure Book (w W : World) (r : Loop) : Prop where
  book : W.heap[w.heap.size + 1]? = some (.loop r)
  held : W.heap[w.heap.size]? = some (.deferred (some []))

theorem Book.put {w W : World} {r : Loop} (h : Book w W r) (r' : Loop) : Book w (W.putObj (w.heap.size + 1) (.loop r')) r' :=
  ⟨World.putObj_heap_same (Array.getElem?_eq_some_iff.1 h.book).1, (World.putObj_heap_other (by omega)).trans h.held⟩
theorem Book.keeps {w W W' : World} {r : Loop} (h : Book w W r) (k : KeepsFrom w.heap.size W W') : Book w W' r :=
  ⟨k.same _ _ (by omega) h.book rfl, k.same _ _ (Nat.le_refl _) h.held rfl⟩
/-- Blocks of deferred calls from B on are as they were. -/
def HeldOn (B : Nat) (W W' : World) : Prop := ∀ k x, B ≤ k → W.heap[k]? = some (.deferred x) → W'.heap[k]? = some (.deferred x)

/-- What a function that is ranged over does, for whatever the caller holds that no turn of a block of the function's own can break. -/
def SeqOwn (F : Fence) (n : Nat) (P : Program) (g : Nat) (lb : Array Value) (encs : α → Array Value) (Kp : World → World → Prop) (S Sp : List α → Prop) (N : Nat) (w : World) : Prop :=
  ∀ (l : Nat) (J Jx : List α → World → Prop) (W : World), Below w.heap.size w W → OwnFrom W.heap.size J → OwnFrom W.heap.size Jx →
    (∀ pre x W1, J pre W1 → pre.length < N → YieldAt F (n - 1) P l (encs x) W1 fun e W' => (e = .returned (.bool true) ∧ J (pre ++ [x]) W' ∧ Kp W1 W') ∨ (e = .returned (.bool false) ∧ Jx (pre ++ [x]) W' ∧ HeldOn W.heap.size W1 W')) →
    J [] W → CallsIn F n P g (#[.func (.yield l) #[] #[]] ++ lb) W fun e W' => (∃ v, e = .returned v) ∧ ((∃ xs, S xs ∧ J xs W') ∨ (∃ pre, Sp pre ∧ Jx pre W'))

theorem Book.own {w W : World} {r : Loop} (hsz : w.heap.size + 2 ≤ W.heap.size) : OwnFrom W.heap.size (fun (_ : Unit) X => Book w X r) := by
  rintro _ A B row hb hgr hr
  have lt1 := (Array.getElem?_eq_some_iff.1 hb.book).1
  exact ⟨(hgr.block _ lt1 (fun e => by have := (hr _ e.symm).1; omega)).trans hb.book, (hgr.block _ (by omega) (fun e => by have := (hr _ e.symm).1; omega)).trans hb.held⟩

/-- The loop, where Kp need abide nothing but a turn of the loop's own record. -/
theorem range_own {g : Operand} {ps : Array Tmp} {assign body : Code} {Q : Exit → Act → World → Prop} {a : Act} {w : World} (hro : F.round = none) (h1 : 1 ≤ n) {gf : Nat} {lb : Array Value} (hg : a.eval g = .func (.func gf) #[] lb) (hFg : F.fn gf)
    (eg : ∀ args w, (callFunc gf args).run P w = .ok (.enter gf args) w) {encs : α → Array Value} {Kp : World → World → Prop} {S Sp : List α → Prop} {N : Nat} {w0 : World} (hseq : SeqOwn F (n - 1) P gf lb encs Kp S Sp N w0) (hb0 : Below w0.heap.size w0 w)
    (hKt : ∀ {A B C : World}, Kp A B → Kp B C → Kp A C) (hKl : ∀ (W : World) (r r' : Loop), W.heap[w.heap.size + 1]? = some (.loop r) → Kp W (W.putObj (w.heap.size + 1) (.loop r'))) (hps : ∀ x, (encs x).size = ps.size)
    (I : List α → World → Prop) (Ix : Code → List α → World → Prop) (hI : OwnFrom w.heap.size I) (hIx : ∀ c, OwnFrom w.heap.size (Ix c)) (h0 : I [] w) (a₁ : α → Act)
    (hassign : ∀ (l : Nat) (x : α) (W : World) (K : Act → World → Prop), K (a₁ x) W →
      assign.wpIn (F.inRound l) (n - 1 - 1) P (Exit.then K (fun _ _ _ => False)) { tmps := (ps.zip (encs x)).foldl (fun t (p, v) => t.setIfInBounds p v) a.tmps, defers := [] } W)
    (hbody : ∀ (l : Nat) (pre : List α) (x : α) (W : World), I pre W → pre.length < N → body.wpIn (F.inRound l) (n - 1 - 1) P (ownPostG w.heap.size Kp I Ix (pre ++ [x]) W) (a₁ x) W)
    (hdone : ∀ (xs : List α) (W : World), S xs → I xs W → W.heap[w.heap.size]? = some (.deferred (some [])) → Q .normal { a with defers := { target := .collected w.heap.size, args := #[] } :: a.defers } W)
    (hstop : ∀ (c : Code) (pre : List α) (W : World), Sp pre → Ix c pre W → W.heap[w.heap.size]? = some (.deferred (some [])) → c.wpIn F n P Q { a with defers := { target := .collected w.heap.size, args := #[] } :: a.defers } W) :
    (Code.rangeFunc g ps assign body).wpIn F n P Q a w := by
  refine wpIn_rangeFunc fun fn hfn => ?_
  rw [hro]
  let rc : LoopState → Option Code → Loop := fun st pe => { state := st, pending := pe, fn, tmps := a.tmps, params := ps, assign, body, defers := w.heap.size }
  obtain ⟨W1, hW1⟩ : ∃ W1, (w.alloc (.deferred (some []))).alloc (.loop (rc .ready none)) = W1 := ⟨_, rfl⟩
  have hbk : Book w W1 (rc .ready none) := by
    rw [← hW1]
    have e1 := alloc_block (w.alloc (.deferred (some []))) (.loop (rc .ready none))
    rw [World.size_alloc] at e1
    exact ⟨e1, alloc_old (alloc_block w _) _⟩
  have hI1 : I [] W1 := by rw [← hW1]; exact hI.alloc _ (hI.alloc _ h0)
  have hB1 : Below w0.heap.size w0 W1 := by rw [← hW1]; exact hb0.trans ((((Below.refl _ w).alloc (Nat.le_refl _) _).alloc (by simp) _).mono hb0.size)
  have hsz : w.heap.size + 2 ≤ W1.heap.size := by rw [← hW1]; simp
  have turn : ∀ {β : Type} {T : β → World → Prop} {s : β} {W : World} {r : Loop} (r' : Loop), OwnFrom w.heap.size T → T s W → Book w W r → T s (W.putObj (w.heap.size + 1) (.loop r')) := fun r' hT hs hb => hT.putObj _ hs (by omega) hb.book rfl
  refine ⟨w.heap.size + 1, [{ target := .collected w.heap.size, args := #[] }], W1, { target := .fn (.func gf) lb, args := #[.func (.yield (w.heap.size + 1)) #[] #[]] }, W1, gf, #[.func (.yield (w.heap.size + 1)) #[] #[]] ++ lb, W1, ?_, ?_, ?_, ?_, fun _ => h1, ?_⟩
  · rw [← hW1]
    exact run_enterLoop_outer _ _ _ _ _
  · simp only [resolve, hg]
    simp [go_sem]
  · intro f' hf'
    simp [Target.leads] at hf'
    subst hf'
    exact hFg
  · simp [invoke, go_sem, eg]
  refine (hseq (w.heap.size + 1) (fun pre W => I pre W ∧ Book w W (rc .ready none)) (fun pre W => ∃ c, Ix c pre W ∧ Book w W (rc .done (some c))) W1 hB1 ?_ ?_ ?_ ⟨hI1, hbk⟩).mono ?_
  · rintro s A B row ⟨hs, hb⟩ hgr hr
    exact ⟨hI s A B row hs hgr (fun r e => ⟨by have := (hr r e).1; omega, (hr r e).2⟩), Book.own hsz () A B row hb hgr hr⟩
  · rintro s A B row ⟨c, hs, hb⟩ hgr hr
    exact ⟨c, hIx c s A B row hs hgr (fun r e => ⟨by have := (hr r e).1; omega, (hr r e).2⟩), Book.own hsz () A B row hb hgr hr⟩
  · rintro pre x W ⟨hi, hb⟩ hlen
    refine ⟨fn, _, assign, body, run_yield (P := P) (args := encs x) hb.book (hps x), roundIn_of_wpIn hfn (hassign _ x W _ ⟨_, run_beginRound hb.book rfl, ?_⟩)⟩
    have hb2 := hb.put (rc .busy none)
    have hk0 : Kp W (W.putObj (w.heap.size + 1) (.loop (rc .busy none))) := hKl W _ _ hb.book
    refine wpIn_mono (hbody (w.heap.size + 1) pre x _ (turn _ hI hi hb) hlen) ?_
    have leave : ∀ (c : Code) (W3 : World), KeepsFrom w.heap.size (W.putObj (w.heap.size + 1) (.loop (rc .busy none))) W3 → Ix c (pre ++ [x]) W3 →
        ∃ v W4, (Instr.endRound (w.heap.size + 1) (some c)).run P W3 = .ok v W4 ∧ ((v = .bool true ∧ False) ∨ (v = .bool false ∧ (∃ c, Ix c (pre ++ [x]) W4 ∧ Book w W4 (rc .done (some c))) ∧ HeldOn W1.heap.size W W4)) := fun c W3 hk hx => by
      have hb3 := hb2.keeps hk
      refine ⟨_, _, run_endRound (some c) hb3.book, .inr ⟨rfl, ⟨c, turn _ (hIx c) hx hb3, hb3.put _⟩, fun k y hB hy => ?_⟩⟩
      exact (World.putObj_heap_other (by omega)).trans (hk.same k _ (by omega) ((World.putObj_heap_other (by omega)).trans hy) rfl)
    rintro e a3 W3 hp
    cases e with
    | normal =>
      obtain ⟨hk3, hkp, hi3⟩ := hp
      have hb3 := hb2.keeps hk3
      exact ⟨_, _, run_endRound none hb3.book, .inl ⟨rfl, ⟨turn _ hI hi3 hb3, hb3.put _⟩, hKt (hKt hk0 hkp) (hKl _ _ _ hb3.book)⟩⟩
    | ret =>
      obtain ⟨v, W4, e1, h | ⟨rfl, h⟩⟩ := leave .ret W3 hp.1 hp.2
      · exact h.2.elim
      · exact ⟨_, W4, e1, .inr ⟨rfl, h⟩⟩
    | exit id =>
      obtain ⟨v, W4, e1, h | ⟨rfl, h⟩⟩ := leave (.exit id) W3 hp.1 hp.2
      · exact h.2.elim
      · exact ⟨_, W4, e1, .inr ⟨rfl, h⟩⟩
    | goto t =>
      obtain ⟨v, W4, e1, h | ⟨rfl, h⟩⟩ := leave (.goto t) W3 hp.1 hp.2
      · exact h.2.elim
      · exact ⟨_, W4, e1, .inr ⟨rfl, h⟩⟩
    | panic ch => exact hp.elim
    | outgrown => exact hp.elim
  · rintro e W2 ⟨⟨v, rfl⟩, ⟨xs, hS, hi, hb⟩ | ⟨pre, hSp, c, hx, hb⟩⟩
    · exact ⟨none, _, run_endLoop hb.book (by simp [rc]), hdone xs _ hS (turn _ hI hi hb) (hb.put _).held⟩
    · exact ⟨some c, _, run_endLoop hb.book (by simp [rc]), hstop c pre _ hSp (turn _ (hIx c) hx hb) (hb.put _).held⟩
end
end Go.Proofs.YtjmmjkoloioddaaDoor


/-
  A loop over a function, where the body may count on what comes next. No statement of the seat is proved here.
-/
namespace Go.Proofs.YtjmmjkoloioddaaDoor
open Go.RowKit Go.Shelf

section
variable {F : Fence} {n : Nat} {P : Program} {α : Type}

/-- What a function that is ranged over does, asked of the body only where x comes next behind pre, for whatever the caller holds that no turn of a block of the function's own can break. -/
def SeqNext (F : Fence) (n : Nat) (P : Program) (g : Nat) (lb : Array Value) (encs : α → Array Value) (Kp : World → World → Prop) (S Sp : List α → Prop) (N : Nat) (Nx : List α → α → Prop) (w : World) : Prop :=
  ∀ (l : Nat) (J Jx : List α → World → Prop) (W : World), Below w.heap.size w W → OwnFrom W.heap.size J → OwnFrom W.heap.size Jx →
    (∀ pre x W1, J pre W1 → pre.length < N → Nx pre x → YieldAt F (n - 1) P l (encs x) W1 fun e W' => (e = .returned (.bool true) ∧ J (pre ++ [x]) W' ∧ Kp W1 W') ∨ (e = .returned (.bool false) ∧ Jx (pre ++ [x]) W' ∧ HeldOn W.heap.size W1 W')) →
    J [] W → CallsIn F n P g (#[.func (.yield l) #[] #[]] ++ lb) W fun e W' => (∃ v, e = .returned v) ∧ ((∃ xs, S xs ∧ J xs W') ∨ (∃ pre, Sp pre ∧ Jx pre W'))

/-- The loop, where Kp need abide nothing but a turn of the loop's own record. -/
theorem range_next {g : Operand} {ps : Array Tmp} {assign body : Code} {Q : Exit → Act → World → Prop} {a : Act} {w : World} (hro : F.round = none) (h1 : 1 ≤ n) {gf : Nat} {lb : Array Value} (hg : a.eval g = .func (.func gf) #[] lb) (hFg : F.fn gf)
    (eg : ∀ args w, (callFunc gf args).run P w = .ok (.enter gf args) w) {encs : α → Array Value} {Kp : World → World → Prop} {S Sp : List α → Prop} {N : Nat} {Nx : List α → α → Prop} {w0 : World} (hseq : SeqNext F (n - 1) P gf lb encs Kp S Sp N Nx w0) (hb0 : Below w0.heap.size w0 w)
    (hKt : ∀ {A B C : World}, Kp A B → Kp B C → Kp A C) (hKl : ∀ (W : World) (r r' : Loop), W.heap[w.heap.size + 1]? = some (.loop r) → Kp W (W.putObj (w.heap.size + 1) (.loop r'))) (hps : ∀ x, (encs x).size = ps.size)
    (I : List α → World → Prop) (Ix : Code → List α → World → Prop) (hI : OwnFrom w.heap.size I) (hIx : ∀ c, OwnFrom w.heap.size (Ix c)) (h0 : I [] w) (a₁ : α → Act)
    (hassign : ∀ (l : Nat) (x : α) (W : World) (K : Act → World → Prop), K (a₁ x) W →
      assign.wpIn (F.inRound l) (n - 1 - 1) P (Exit.then K (fun _ _ _ => False)) { tmps := (ps.zip (encs x)).foldl (fun t (p, v) => t.setIfInBounds p v) a.tmps, defers := [] } W)
    (hbody : ∀ (l : Nat) (pre : List α) (x : α) (W : World), I pre W → pre.length < N → Nx pre x → body.wpIn (F.inRound l) (n - 1 - 1) P (ownPostG w.heap.size Kp I Ix (pre ++ [x]) W) (a₁ x) W)
    (hdone : ∀ (xs : List α) (W : World), S xs → I xs W → W.heap[w.heap.size]? = some (.deferred (some [])) → Q .normal { a with defers := { target := .collected w.heap.size, args := #[] } :: a.defers } W)
    (hstop : ∀ (c : Code) (pre : List α) (W : World), Sp pre → Ix c pre W → W.heap[w.heap.size]? = some (.deferred (some [])) → c.wpIn F n P Q { a with defers := { target := .collected w.heap.size, args := #[] } :: a.defers } W) :
    (Code.rangeFunc g ps assign body).wpIn F n P Q a w := by
  refine wpIn_rangeFunc fun fn hfn => ?_
  rw [hro]
  let rc : LoopState → Option Code → Loop := fun st pe => { state := st, pending := pe, fn, tmps := a.tmps, params := ps, assign, body, defers := w.heap.size }
  obtain ⟨W1, hW1⟩ : ∃ W1, (w.alloc (.deferred (some []))).alloc (.loop (rc .ready none)) = W1 := ⟨_, rfl⟩
  have hbk : Book w W1 (rc .ready none) := by
    rw [← hW1]
    have e1 := alloc_block (w.alloc (.deferred (some []))) (.loop (rc .ready none))
    rw [World.size_alloc] at e1
    exact ⟨e1, alloc_old (alloc_block w _) _⟩
  have hI1 : I [] W1 := by rw [← hW1]; exact hI.alloc _ (hI.alloc _ h0)
  have hB1 : Below w0.heap.size w0 W1 := by rw [← hW1]; exact hb0.trans ((((Below.refl _ w).alloc (Nat.le_refl _) _).alloc (by simp) _).mono hb0.size)
  have hsz : w.heap.size + 2 ≤ W1.heap.size := by rw [← hW1]; simp
  have turn : ∀ {β : Type} {T : β → World → Prop} {s : β} {W : World} {r : Loop} (r' : Loop), OwnFrom w.heap.size T → T s W → Book w W r → T s (W.putObj (w.heap.size + 1) (.loop r')) := fun r' hT hs hb => hT.putObj _ hs (by omega) hb.book rfl
  refine ⟨w.heap.size + 1, [{ target := .collected w.heap.size, args := #[] }], W1, { target := .fn (.func gf) lb, args := #[.func (.yield (w.heap.size + 1)) #[] #[]] }, W1, gf, #[.func (.yield (w.heap.size + 1)) #[] #[]] ++ lb, W1, ?_, ?_, ?_, ?_, fun _ => h1, ?_⟩
  · rw [← hW1]
    exact run_enterLoop_outer _ _ _ _ _
  · simp only [resolve, hg]
    simp [go_sem]
  · intro f' hf'
    simp [Target.leads] at hf'
    subst hf'
    exact hFg
  · simp [invoke, go_sem, eg]
  refine (hseq (w.heap.size + 1) (fun pre W => I pre W ∧ Book w W (rc .ready none)) (fun pre W => ∃ c, Ix c pre W ∧ Book w W (rc .done (some c))) W1 hB1 ?_ ?_ ?_ ⟨hI1, hbk⟩).mono ?_
  · rintro s A B row ⟨hs, hb⟩ hgr hr
    exact ⟨hI s A B row hs hgr (fun r e => ⟨by have := (hr r e).1; omega, (hr r e).2⟩), Book.own hsz () A B row hb hgr hr⟩
  · rintro s A B row ⟨c, hs, hb⟩ hgr hr
    exact ⟨c, hIx c s A B row hs hgr (fun r e => ⟨by have := (hr r e).1; omega, (hr r e).2⟩), Book.own hsz () A B row hb hgr hr⟩
  · rintro pre x W ⟨hi, hb⟩ hlen hnx
    refine ⟨fn, _, assign, body, run_yield (P := P) (args := encs x) hb.book (hps x), roundIn_of_wpIn hfn (hassign _ x W _ ⟨_, run_beginRound hb.book rfl, ?_⟩)⟩
    have hb2 := hb.put (rc .busy none)
    have hk0 : Kp W (W.putObj (w.heap.size + 1) (.loop (rc .busy none))) := hKl W _ _ hb.book
    refine wpIn_mono (hbody (w.heap.size + 1) pre x _ (turn _ hI hi hb) hlen hnx) ?_
    have leave : ∀ (c : Code) (W3 : World), KeepsFrom w.heap.size (W.putObj (w.heap.size + 1) (.loop (rc .busy none))) W3 → Ix c (pre ++ [x]) W3 →
        ∃ v W4, (Instr.endRound (w.heap.size + 1) (some c)).run P W3 = .ok v W4 ∧ ((v = .bool true ∧ False) ∨ (v = .bool false ∧ (∃ c, Ix c (pre ++ [x]) W4 ∧ Book w W4 (rc .done (some c))) ∧ HeldOn W1.heap.size W W4)) := fun c W3 hk hx => by
      have hb3 := hb2.keeps hk
      refine ⟨_, _, run_endRound (some c) hb3.book, .inr ⟨rfl, ⟨c, turn _ (hIx c) hx hb3, hb3.put _⟩, fun k y hB hy => ?_⟩⟩
      exact (World.putObj_heap_other (by omega)).trans (hk.same k _ (by omega) ((World.putObj_heap_other (by omega)).trans hy) rfl)
    rintro e a3 W3 hp
    cases e with
    | normal =>
      obtain ⟨hk3, hkp, hi3⟩ := hp
      have hb3 := hb2.keeps hk3
      exact ⟨_, _, run_endRound none hb3.book, .inl ⟨rfl, ⟨turn _ hI hi3 hb3, hb3.put _⟩, hKt (hKt hk0 hkp) (hKl _ _ _ hb3.book)⟩⟩
    | ret =>
      obtain ⟨v, W4, e1, h | ⟨rfl, h⟩⟩ := leave .ret W3 hp.1 hp.2
      · exact h.2.elim
      · exact ⟨_, W4, e1, .inr ⟨rfl, h⟩⟩
    | exit id =>
      obtain ⟨v, W4, e1, h | ⟨rfl, h⟩⟩ := leave (.exit id) W3 hp.1 hp.2
      · exact h.2.elim
      · exact ⟨_, W4, e1, .inr ⟨rfl, h⟩⟩
    | goto t =>
      obtain ⟨v, W4, e1, h | ⟨rfl, h⟩⟩ := leave (.goto t) W3 hp.1 hp.2
      · exact h.2.elim
      · exact ⟨_, W4, e1, .inr ⟨rfl, h⟩⟩
    | panic ch => exact hp.elim
    | outgrown => exact hp.elim
  · rintro e W2 ⟨⟨v, rfl⟩, ⟨xs, hS, hi, hb⟩ | ⟨pre, hSp, c, hx, hb⟩⟩
    · exact ⟨none, _, run_endLoop hb.book (by simp [rc]), hdone xs _ hS (turn _ hI hi hb) (hb.put _).held⟩
    · exact ⟨some c, _, run_endLoop hb.book (by simp [rc]), hstop c pre _ hSp (turn _ (hIx c) hx hb) (hb.put _).held⟩
end
end Go.Proofs.YtjmmjkoloioddaaDoor


/-
  A loop over a function whose rounds begin with a variable of their own, which is a new block. No statement of the seat is proved here.
-/
namespace Go.Proofs.YtjmmjkoloioddaaDoor
open Go.RowKit Go.Shelf

section
variable {F : Fence} {n : Nat} {P : Program} {α : Type}

/-- The loop, where a round begins with a variable of its own: a new block. -/
theorem range_new {g : Operand} {ps : Array Tmp} {assign body : Code} {Q : Exit → Act → World → Prop} {a : Act} {w : World} (hro : F.round = none) (h1 : 1 ≤ n) {gf : Nat} {lb : Array Value} (hg : a.eval g = .func (.func gf) #[] lb) (hFg : F.fn gf)
    (eg : ∀ args w, (callFunc gf args).run P w = .ok (.enter gf args) w) {encs : α → Array Value} {Kp : World → World → Prop} {S Sp : List α → Prop} {N : Nat} {Nx : List α → α → Prop} {w0 : World} (hseq : SeqNext F (n - 1) P gf lb encs Kp S Sp N Nx w0) (hb0 : Below w0.heap.size w0 w)
    (hKt : ∀ {A B C : World}, Kp A B → Kp B C → Kp A C) (hKa : ∀ (W : World) (o : Obj), Kp W (W.alloc o)) (hKl : ∀ (W : World) (r r' : Loop), W.heap[w.heap.size + 1]? = some (.loop r) → Kp W (W.putObj (w.heap.size + 1) (.loop r'))) (hps : ∀ x, (encs x).size = ps.size)
    (I : List α → World → Prop) (Ix : Code → List α → World → Prop) (hI : OwnFrom w.heap.size I) (hIx : ∀ c, OwnFrom w.heap.size (Ix c)) (h0 : I [] w) (ob : α → Obj) (a₁ : α → Nat → Act)
    (hassign : ∀ (l : Nat) (x : α) (W : World) (K : Act → World → Prop) (b : Nat), W.heap.size = b → K (a₁ x b) (W.alloc (ob x)) →
      assign.wpIn (F.inRound l) (n - 1 - 1) P (Exit.then K (fun _ _ _ => False)) { tmps := (ps.zip (encs x)).foldl (fun t (p, v) => t.setIfInBounds p v) a.tmps, defers := [] } W)
    (hbody : ∀ (l : Nat) (pre : List α) (x : α) (W : World), I pre W → pre.length < N → Nx pre x → ∀ b, W.heap[b]? = some (ob x) → b + 1 = W.heap.size → w.heap.size + 2 ≤ b → body.wpIn (F.inRound l) (n - 1 - 1) P (ownPostG w.heap.size Kp I Ix (pre ++ [x]) W) (a₁ x b) W)
    (hdone : ∀ (xs : List α) (W : World), S xs → I xs W → W.heap[w.heap.size]? = some (.deferred (some [])) → Q .normal { a with defers := { target := .collected w.heap.size, args := #[] } :: a.defers } W)
    (hstop : ∀ (c : Code) (pre : List α) (W : World), Sp pre → Ix c pre W → W.heap[w.heap.size]? = some (.deferred (some [])) → c.wpIn F n P Q { a with defers := { target := .collected w.heap.size, args := #[] } :: a.defers } W) :
    (Code.rangeFunc g ps assign body).wpIn F n P Q a w := by
  refine wpIn_rangeFunc fun fn hfn => ?_
  rw [hro]
  let rc : LoopState → Option Code → Loop := fun st pe => { state := st, pending := pe, fn, tmps := a.tmps, params := ps, assign, body, defers := w.heap.size }
  obtain ⟨W1, hW1⟩ : ∃ W1, (w.alloc (.deferred (some []))).alloc (.loop (rc .ready none)) = W1 := ⟨_, rfl⟩
  have hbk : Book w W1 (rc .ready none) := by
    rw [← hW1]
    have e1 := alloc_block (w.alloc (.deferred (some []))) (.loop (rc .ready none))
    rw [World.size_alloc] at e1
    exact ⟨e1, alloc_old (alloc_block w _) _⟩
  have hI1 : I [] W1 := by rw [← hW1]; exact hI.alloc _ (hI.alloc _ h0)
  have hB1 : Below w0.heap.size w0 W1 := by rw [← hW1]; exact hb0.trans ((((Below.refl _ w).alloc (Nat.le_refl _) _).alloc (by simp) _).mono hb0.size)
  have hsz : w.heap.size + 2 ≤ W1.heap.size := by rw [← hW1]; simp
  have turn : ∀ {β : Type} {T : β → World → Prop} {s : β} {W : World} {r : Loop} (r' : Loop), OwnFrom w.heap.size T → T s W → Book w W r → T s (W.putObj (w.heap.size + 1) (.loop r')) := fun r' hT hs hb => hT.putObj _ hs (by omega) hb.book rfl
  refine ⟨w.heap.size + 1, [{ target := .collected w.heap.size, args := #[] }], W1, { target := .fn (.func gf) lb, args := #[.func (.yield (w.heap.size + 1)) #[] #[]] }, W1, gf, #[.func (.yield (w.heap.size + 1)) #[] #[]] ++ lb, W1, ?_, ?_, ?_, ?_, fun _ => h1, ?_⟩
  · rw [← hW1]
    exact run_enterLoop_outer _ _ _ _ _
  · simp only [resolve, hg]
    simp [go_sem]
  · intro f' hf'
    simp [Target.leads] at hf'
    subst hf'
    exact hFg
  · simp [invoke, go_sem, eg]
  refine (hseq (w.heap.size + 1) (fun pre W => I pre W ∧ Book w W (rc .ready none)) (fun pre W => ∃ c, Ix c pre W ∧ Book w W (rc .done (some c))) W1 hB1 ?_ ?_ ?_ ⟨hI1, hbk⟩).mono ?_
  · rintro s A B row ⟨hs, hb⟩ hgr hr
    exact ⟨hI s A B row hs hgr (fun r e => ⟨by have := (hr r e).1; omega, (hr r e).2⟩), Book.own hsz () A B row hb hgr hr⟩
  · rintro s A B row ⟨c, hs, hb⟩ hgr hr
    exact ⟨c, hIx c s A B row hs hgr (fun r e => ⟨by have := (hr r e).1; omega, (hr r e).2⟩), Book.own hsz () A B row hb hgr hr⟩
  · rintro pre x W0 ⟨hi0, hb0'⟩ hlen hnx
    have hb : Book w (W0.alloc (ob x)) (rc .ready none) := ⟨alloc_old hb0'.book _, alloc_old hb0'.held _⟩
    have hi := hI.alloc (ob x) hi0
    refine ⟨fn, _, assign, body, run_yield (P := P) (args := encs x) hb0'.book (hps x), roundIn_of_wpIn hfn (hassign _ x W0 _ W0.heap.size rfl ⟨_, run_beginRound hb.book rfl, ?_⟩)⟩
    have hbk0 := (Array.getElem?_eq_some_iff.1 hb0'.book).1
    have hob := alloc_block W0 (ob x)
    have hWs : (W0.alloc (ob x)).heap.size = W0.heap.size + 1 := by simp
    have hold : ∀ (k : Nat) (o : Obj), W0.heap[k]? = some o → (W0.alloc (ob x)).heap[k]? = some o := fun k o h => alloc_old h _
    have hka := hKa W0 (ob x)
    generalize W0.alloc (ob x) = W at hb hi hob hWs hold hka ⊢
    have hb2 := hb.put (rc .busy none)
    have hk0 : Kp W0 (W.putObj (w.heap.size + 1) (.loop (rc .busy none))) := hKt hka (hKl W _ _ hb.book)
    refine wpIn_mono (hbody (w.heap.size + 1) pre x _ (turn _ hI hi hb) hlen hnx W0.heap.size ((World.putObj_heap_other (by omega)).trans hob) (by simp [World.putObj]; omega) (by omega)) ?_
    have leave : ∀ (c : Code) (W3 : World), KeepsFrom w.heap.size (W.putObj (w.heap.size + 1) (.loop (rc .busy none))) W3 → Ix c (pre ++ [x]) W3 →
        ∃ v W4, (Instr.endRound (w.heap.size + 1) (some c)).run P W3 = .ok v W4 ∧ ((v = .bool true ∧ False) ∨ (v = .bool false ∧ (∃ c, Ix c (pre ++ [x]) W4 ∧ Book w W4 (rc .done (some c))) ∧ HeldOn W1.heap.size W0 W4)) := fun c W3 hk hx => by
      have hb3 := hb2.keeps hk
      refine ⟨_, _, run_endRound (some c) hb3.book, .inr ⟨rfl, ⟨c, turn _ (hIx c) hx hb3, hb3.put _⟩, fun k y hB hy => ?_⟩⟩
      exact (World.putObj_heap_other (by omega)).trans (hk.same k _ (by omega) ((World.putObj_heap_other (by omega)).trans (hold k _ hy)) rfl)
    rintro e a3 W3 hp
    cases e with
    | normal =>
      obtain ⟨hk3, hkp, hi3⟩ := hp
      have hb3 := hb2.keeps hk3
      exact ⟨_, _, run_endRound none hb3.book, .inl ⟨rfl, ⟨turn _ hI hi3 hb3, hb3.put _⟩, hKt (hKt hk0 hkp) (hKl _ _ _ hb3.book)⟩⟩
    | ret =>
      obtain ⟨v, W4, e1, h | ⟨rfl, h⟩⟩ := leave .ret W3 hp.1 hp.2
      · exact h.2.elim
      · exact ⟨_, W4, e1, .inr ⟨rfl, h⟩⟩
    | exit id =>
      obtain ⟨v, W4, e1, h | ⟨rfl, h⟩⟩ := leave (.exit id) W3 hp.1 hp.2
      · exact h.2.elim
      · exact ⟨_, W4, e1, .inr ⟨rfl, h⟩⟩
    | goto t =>
      obtain ⟨v, W4, e1, h | ⟨rfl, h⟩⟩ := leave (.goto t) W3 hp.1 hp.2
      · exact h.2.elim
      · exact ⟨_, W4, e1, .inr ⟨rfl, h⟩⟩
    | panic ch => exact hp.elim
    | outgrown => exact hp.elim
  · rintro e W2 ⟨⟨v, rfl⟩, ⟨xs, hS, hi, hb⟩ | ⟨pre, hSp, c, hx, hb⟩⟩
    · exact ⟨none, _, run_endLoop hb.book (by simp [rc]), hdone xs _ hS (turn _ hI hi hb) (hb.put _).held⟩
    · exact ⟨some c, _, run_endLoop hb.book (by simp [rc]), hstop c pre _ hSp (turn _ (hIx c) hx hb) (hb.put _).held⟩
end
end Go.Proofs.YtjmmjkoloioddaaDoor


/- The library's walk over a row of stands, the last one first, as an iterator. No statement of the seat is proved here. -/
namespace Go.Proofs.YtjmmjkoloioddaaDoor
open Go.RowKit Go.Shelf
attribute [local go_sem] Oper.semAt_some

/-- The cells of S are as they were. -/
structure KeptOn (S : Nat → Prop) (W W' : World) : Prop where
  size : W.heap.size ≤ W'.heap.size
  block : ∀ (k : Nat) (c : Array Value) (t : TypeId) (fr : Nat × Nat), S k → W.heap[k]? = some (.cells c t fr) → W'.heap[k]? = some (.cells c t fr)
theorem KeptOn.trans {S : Nat → Prop} {X Y Z : World} (h : KeptOn S X Y) (k : KeptOn S Y Z) : KeptOn S X Z := ⟨Nat.le_trans h.size k.size, fun i c t fr hS hi => k.block i c t fr hS (h.block i c t fr hS hi)⟩
theorem KeptOn.putObj {S : Nat → Prop} (W : World) (l : Nat) (o o' : Obj) (hl : W.heap[l]? = some o) (ho : o.isCells = false) : KeptOn S W (W.putObj l o') :=
  ⟨by simp, fun k c t fr _ hk => (World.putObj_heap_other (fun e => by
    subst e
    rw [hk] at hl
    cases hl
    simp [Obj.isCells] at ho)).trans hk⟩
theorem KeptOn.keeps {S T : Nat → Prop} {W W' : World} (h : Keeps T W W') (hS : ∀ k, S k → ¬ T k) : KeptOn S W W' :=
  ⟨h.size, fun k _ _ _ hs hk => (h.block k (lt_of_block hk) (hS _ hs)).trans hk⟩
theorem block_kept {A B : World} {row : Option Nat} {k : Nat} {c : Array Value} {t : TypeId} {fr : Nat × Nat} (h : A.heap[k]? = some (.cells c t fr)) (hg : A.grownBy B row) (hr : ∀ r, row = some r → ∃ o : Obj, A.heap[r]? = some o ∧ o.isCells = false) : B.heap[k]? = some (.cells c t fr) :=
  (hg.block k (lt_of_block h) (fun e => by
    obtain ⟨o, ho, hc⟩ := hr k e.symm
    rw [h] at ho
    cases ho
    simp [Obj.isCells] at hc)).trans h
theorem keeps_grown {w w' : World} {row : Option Nat} (h : w.grownBy w' row) : Keeps (fun k => row = some k) w w' :=
  ⟨h.os, h.tape, h.output, h.size, fun k hk hs => h.block k hk (fun e => hs e.symm)⟩
theorem ownFrom_keeps {β : Type} {S : Nat → Prop} {a : World} {B : Nat} (hB : a.heap.size ≤ B) : OwnFrom B (fun (_ : β) W => Keeps S a W) :=
  fun _ A C row hs hg hr => ⟨hg.os.trans hs.os, hg.tape.trans hs.tape, hg.output.trans hs.output, Nat.le_trans hs.size hg.size, fun k hk hns => (hg.block k (Nat.lt_of_lt_of_le hk hs.size) (fun e => by have := (hr k e.symm).1; omega)).trans (hs.block k hk hns)⟩
/-- A cell lies in a block of cells. -/
theorem cells_of_cell {w : World} {g o : Nat} {v : Value} (h : w.cell? ⟨g, o, none⟩ = some v) : ∃ c t fr, w.heap[g]? = some (.cells c t fr) := by
  unfold World.cell? at h
  dsimp only at h
  split at h
  · exact ⟨_, _, _, by assumption⟩
  · cases h
theorem KeptOn.cell {S : Nat → Prop} {W W' : World} (k : KeptOn S W W') {g o : Nat} {v : Value} (hs : S g) (h : W.cell? ⟨g, o, none⟩ = some v) : W'.cell? ⟨g, o, none⟩ = some v := by
  obtain ⟨c, t, fr, hb⟩ := cells_of_cell h
  rw [cell_of_block (k.block g c t fr hs hb), ← h, cell_of_block hb]
theorem ElsAt.on {α : Type} {c : α → List Value} {sz : Nat} {w w' : World} {a : Option Addr} {n cap : Nat} {L : List α} {S : Nat → Prop} (h : ElsAt c sz w (.slice a n cap) L) (k : KeptOn S w w') (hs : ∀ g off, a = some ⟨g, off, none⟩ → S g) : ElsAt c sz w' (.slice a n cap) L := by
  obtain ⟨a', cap', hv, hcap⟩ := h.shape
  injection hv with e1 e2 e3
  subst e1 e2 e3
  refine ⟨a, cap, rfl, hcap, fun j hj => ?_⟩
  obtain ⟨g, off, ha, hc⟩ := h.at j hj
  exact ⟨g, off, ha, fun f x hx => k.cell (hs g off ha) (hc f x hx)⟩
/-- The stands that are walked over: the walk's own variable, and their cells. -/
structure BkAt (W : World) (bx : Nat) (a : Option Addr) (c : Nat) (l : List (Int × Int)) : Prop where
  box : W.heap[bx]? = some (.cells #[.slice a l.length c] 119 (0, 0))
  els : ElsAt stC 2 W (.slice a l.length c) l
def BkOn (bx : Nat) (a : Option Addr) (k : Nat) : Prop := k = bx ∨ ∃ off, a = some ⟨k, off, none⟩
theorem BkAt.kept {W W' : World} {bx : Nat} {a : Option Addr} {c : Nat} {l : List (Int × Int)} (h : BkAt W bx a c l) (k : KeptOn (BkOn bx a) W W') : BkAt W' bx a c l :=
  ⟨k.block _ _ _ _ (.inl rfl) h.box, h.els.on k fun _ off e => .inr ⟨off, e⟩⟩
theorem BkAt.below {W W' : World} {bx : Nat} {a : Option Addr} {c : Nat} {l : List (Int × Int)} (h : BkAt W bx a c l) (k : Below W.heap.size W W') : BkAt W' bx a c l :=
  h.kept ⟨k.size, fun i _ _ _ _ hi => (k.block i (lt_of_block hi)).trans hi⟩
def bkE (x : Nat × (Int × Int)) : Array Value := #[.int .i64 (x.1 : Nat), .agg #[.int .i64 x.2.1, .int .u64 x.2.2]]
def bkX (l : List (Int × Int)) (k : Nat) : Nat × (Int × Int) := (l.length - 1 - k, (l[l.length - 1 - k]?).getD (0, 0))
set_option maxRecDepth 100000 in
set_option maxHeartbeats 2000000 in
theorem bk1_in (n : Nat) (hn : 1 ≤ n) (l bx c : Nat) (a : Option Addr) (L : List (Int × Int)) (hm : L.length ≤ 4398046511104) (J Jx : List (Nat × (Int × Int)) → World → Prop) (W : World)
    (hY : ∀ pre x W1, J pre W1 → pre.length < L.length → x = bkX L pre.length → YieldAt Fence.wide (n - 1) Tryd.prog l (bkE x) W1 fun e W' =>
      (e = .returned (.bool true) ∧ J (pre ++ [x]) W' ∧ KeptOn (BkOn bx a) W1 W') ∨ (e = .returned (.bool false) ∧ Jx (pre ++ [x]) W'))
    (hR : BkAt W bx a c L) (h0 : J [] W) :
    CallsIn Fence.wide n Tryd.prog 64 #[.func (.yield l) #[] #[], .pointer (some ⟨bx, 0, none⟩)] W fun e W' => (∃ v, e = .returned v) ∧
      ((∃ ys, ys.length = L.length ∧ J ys W') ∨ (∃ pre, True ∧ Jx pre W')) := by
  have b0 : W.cell? ⟨bx, 0, none⟩ = some (.slice a L.length c) := cell_of_block hR.box 0
  refine callsIn_of_wp Tryd.func64 rfl trivial ?_ rfl
  simp only [Tryd.ntmps64, List.size_toArray, List.length_cons, List.length_nil, Nat.reduceAdd, Nat.reduceSub, Array.replicate_succ, Array.replicate_zero, List.push_toArray, List.append_toArray, List.nil_append, List.cons_append]
  gi_wp2
  clear b0
  gi_loopw [3] (fun v wr => ∃ q : Nat, q ≤ L.length ∧ v = .int .i64 ((q : Int) - 1) ∧ ∃ pre, pre.length + q = L.length ∧ J pre wr ∧ BkAt wr bx a c L)
    (fun v _ => (intOf v + 1).toNat)
  case atStart => exact ⟨L.length, Nat.le_refl _, rfl, [], by simp, h0, hR⟩
  case round =>
    obtain ⟨q, hq, rfl, pre, hpre, hJs, hR1⟩ := hrel
    clear hR h0
    have b0 : wr.cell? ⟨bx, 0, none⟩ = some (.slice a L.length c) := cell_of_block hR1.box 0
    cases q with
    | zero =>
      gi_wp2
      go_end0
      exact ⟨⟨_, rfl⟩, .inl ⟨pre, by omega, hJs⟩⟩
    | succ q =>
      have hq1 : ((q + 1 : Nat) : Int) - 1 = (q : Int) := by omega
      rw [hq1]
      have hqL : q < L.length := by omega
      obtain ⟨g, off, rfl, hc⟩ := hR1.els.at q hqL
      have hx : bkX L pre.length = (q, L[q]) := by
        unfold bkX
        rw [show L.length - 1 - pre.length = q by omega, List.getElem?_eq_getElem hqL]; rfl
      obtain ⟨fn, tmps, assign, body, hy, hRR⟩ := hY pre (q, L[q]) wr hJs (by omega) hx.symm
      have e0 := hc 0 _ rfl
      have e1 := hc 1 _ rfl
      simp only [Nat.add_zero] at e0
      generalize hz : L[q]'hqL = z at *
      clear hz hx
      obtain ⟨s0, s1⟩ := z
      dsimp only at e0 e1
      have hql : (q : Int) < (L.length : Int) := by omega
      have hq0 : (0 : Int) ≤ (q : Int) := by omega
      dsimp only [bkE] at hy hRR
      clear hY hc
      gi_wp2
      refine hRR.mono ?_
      rintro e W3 (⟨rfl, hJ3, hk3⟩ | ⟨rfl, hJx3⟩)
      · have hR3 := hR1.kept hk3
        clear b0 e0 e1
        gi_wp2
        go_roundw
        case rel => exact ⟨q, by omega, by go_num, pre ++ [(q, (s0, s1))], by simp; omega, hJ3, hR3⟩
        case measure => simp [intOf]
      · gi_wp2
        refine bodyPost_ret (results_none rfl _ _ _) rfl ?_
        exact ⟨⟨_, rfl⟩, .inr ⟨_, trivial, hJx3⟩⟩
/-- The library's walk, as an iterator. -/
theorem bk_next (n : Nat) (hn : 1 ≤ n) (bx c : Nat) (a : Option Addr) (L : List (Int × Int)) (hm : L.length ≤ 4398046511104) (w : World) (hR : BkAt w bx a c L) :
    SeqNext Fence.wide n Tryd.prog 64 #[.pointer (some ⟨bx, 0, none⟩)] bkE (KeptOn (BkOn bx a)) (fun ys => ys.length = L.length) (fun _ => True) L.length (fun pre x => x = bkX L pre.length) w :=
  fun l J Jx W hW _ _ hY h0 => bk1_in n hn l bx c a L hm J Jx W (fun pre x W1 h1 h2 h3 => by
    obtain ⟨fn, tmps, assign, body, hy, hRR⟩ := hY pre x W1 h1 h2 h3
    exact ⟨fn, tmps, assign, body, hy, hRR.mono (fun e W' h => h.imp id (fun ⟨q1, q2, _⟩ => ⟨q1, q2⟩))⟩) (hR.below hW) h0
theorem bkward_any (a : Option Addr) (n c : Nat) (w : World) : Calls Tryd.prog 51 #[.slice a n c] w fun e w' => e = .returned (.func (.func 64) #[] #[.pointer (some ⟨w.heap.size, 0, none⟩)]) ∧ w' = w.alloc (.cells #[.slice a n c] 119) := by
  go_enter Tryd.func51, Tryd.ntmps51
  go_wp2
  go_ret
  exact ⟨rfl, rfl⟩
end Go.Proofs.YtjmmjkoloioddaaDoor


/- Numbers that are struck (pure); a function that leaves with marks. No statement of the seat is proved here. -/
namespace Go.Proofs.YtjmmjkoloioddaaDoor
open Go.RowKit Go.Shelf

theorem preL_str {D : List Int} {b e : Nat} (hb : b < D.length) (he : e < D.length) (k : Nat) : preL (strD D b e) k = preL D k + (if b < k then 1 else 0) - (if e < k then 1 else 0) := by
  unfold preL strD
  have h1 := sum_take_set D b 1 k hb
  rw [List.getElem?_eq_getElem hb, Option.getD_some]
  have he2 : e < (D.set b (D[b] + 1)).length := by simpa using he
  have h2 := sum_take_set (D.set b (D[b] + 1)) e (-1) k he2
  rw [List.getElem?_eq_getElem he2, Option.getD_some]
  rw [show (D.set b (D[b] + 1))[e] - 1 = (D.set b (D[b] + 1))[e] + -1 by omega, h2, h1]
  split <;> split <;> omega
theorem preL_get {D : List Int} {k : Nat} (h : k < D.length) : D[k] = preL D (k + 1) - preL D k := by
  rw [preL_succ D k h]; omega
theorem preL_rep (n k : Nat) : preL (List.replicate n 0) k = 0 := by
  unfold preL
  rw [List.take_replicate]
  generalize min k n = m
  induction m with
  | zero => rfl
  | succ m ih => rw [List.replicate_succ, List.sum_cons, ih]; rfl
/-- How often numbers are struck while a course is gone along, down to E. -/
def Str (D : List Int) (c0 : Nat → Int) (l : List (Int × Int)) (fr up : Nat) (wd E : Int) : Prop := ∀ j, j < D.length → preL D (j + 1) = c0 j + (if E ≤ (fr : Int) + j ∧ (fr : Int) + j ≤ up ∧ valF l ((fr : Int) + j) 0 ≠ wd then 1 else 0)
theorem str_start {D : List Int} {c0 : Nat → Int} {l : List (Int × Int)} {fr up : Nat} {wd : Int} (h : ∀ j, j < D.length → preL D (j + 1) = c0 j) : Str D c0 l fr up wd ((up : Int) + 1) := fun j hj => by
  rw [h j hj, if_neg (by omega)]; omega
theorem str_same {D : List Int} {c0 : Nat → Int} {l : List (Int × Int)} {fr up : Nat} {wd E B : Int} (h : Str D c0 l fr up wd E) (hv : ∀ n : Int, B ≤ n → n < E → valF l n 0 = wd) (hB : B ≤ E) : Str D c0 l fr up wd B := fun j hj => by
  rw [h j hj]
  congr 1
  by_cases h1 : E ≤ (fr : Int) + j
  · simp only [h1, true_and, show B ≤ (fr : Int) + j by omega]
  · rw [if_neg (fun q => h1 q.1)]
    by_cases h2 : B ≤ (fr : Int) + j
    · rw [if_neg (fun q => q.2.2 (hv _ h2 (by omega)))]
    · rw [if_neg (fun q => h2 q.1)]
theorem str_strike {D : List Int} {c0 : Nat → Int} {l : List (Int × Int)} {fr up b e : Nat} {wd : Int} (h : Str D c0 l fr up wd ((fr : Int) + e)) (hD : D.length = up - fr + 2) (hfu : fr ≤ up) (hbe : b < e) (heu : (fr : Int) + e ≤ (up : Int) + 1) (hv : ∀ n : Int, (fr : Int) + b ≤ n → n < (fr : Int) + e → valF l n 0 ≠ wd) : Str (strD D b e) c0 l fr up wd ((fr : Int) + b) := fun j hj => by
  rw [strD_len] at hj
  rw [preL_str (by omega) (by omega), h j hj]
  by_cases h1 : e ≤ j
  · rw [if_pos (show b < j + 1 by omega), if_pos (show e < j + 1 by omega)]
    simp only [show (fr : Int) + e ≤ (fr : Int) + j by omega, show (fr : Int) + b ≤ (fr : Int) + j by omega, true_and]
    omega
  · rw [if_neg (show ¬ e < j + 1 by omega), if_neg (fun q => by omega)]
    by_cases h2 : b ≤ j
    · rw [if_pos (show b < j + 1 by omega), if_pos ⟨by omega, by omega, hv _ (by omega) (by omega)⟩]; omega
    · rw [if_neg (show ¬ b < j + 1 by omega), if_neg (fun q => by omega)]; omega
/-- Marks among the deferred calls. -/
def Marks : List Deferred → World → Prop
  | [], _ => True
  | d :: ds, W => (∃ r, d = { target := .collected r, args := #[] } ∧ W.heap[r]? = some (.deferred (some [])) ∧ ∀ d' ∈ ds, ∃ r', d' = { target := .collected r', args := #[] } ∧ r' < r) ∧ Marks ds W
theorem Marks.keeps {W W' : World} {S : Nat → Prop} (k : Keeps S W W') (hs : ∀ q, S q → W.heap[q]? ≠ some (.deferred (some []))) : ∀ {ds : List Deferred}, Marks ds W → Marks ds W'
  | [], _ => trivial
  | d :: ds, ⟨⟨r, h1, h2, h3⟩, h4⟩ => by
    refine ⟨⟨r, h1, ?_, h3⟩, Marks.keeps k hs h4⟩
    exact (k.block r (lt_of_block h2) (fun hS => hs r hS h2)).trans h2
theorem Marks.lt {W : World} : ∀ {ds : List Deferred}, Marks ds W → ∀ d ∈ ds, ∃ r, d = { target := .collected r, args := #[] } ∧ r < W.heap.size
  | [], _, d, hd => by simp at hd
  | e :: ds, ⟨⟨r, h1, h2, h3⟩, h4⟩, d, hd => by
    rcases List.mem_cons.1 hd with rfl | hd
    · exact ⟨r, h1, lt_of_block h2⟩
    · exact Marks.lt h4 d hd
theorem Marks.push {W : World} {ds : List Deferred} {b : Nat} (h : Marks ds W) (hb : W.heap[b]? = some (.deferred (some []))) (hl : ∀ d ∈ ds, ∃ r, d = { target := .collected r, args := #[] } ∧ r < b) : Marks ({ target := .collected b, args := #[] } :: ds) W := ⟨⟨b, rfl, hb, hl⟩, h⟩
/-- Where only marks are left, the function leaves; blocks that are no cells may be shut. -/
theorem leaves_marks {F : Fence} {n : Nat} {fn : Func} {tmps : Array Value} {R : Ending → World → Prop} : ∀ (ds : List Deferred) (W : World), Marks ds W →
    (∀ W', Keeps (fun q => ({ target := .collected q, args := #[] } : Deferred) ∈ ds) W W' → LeavesInM F n Tryd.prog fn tmps R [] .returning W') → LeavesInM F n Tryd.prog fn tmps R ds .returning W
  | [], W, _, h => h W (Keeps.refl _ _)
  | d :: ds, W, ⟨⟨r, h1, h2, h3⟩, h4⟩, h => by
    subst h1
    refine ⟨by simp, .inl ⟨r, _, rfl, run_takeDeferred h2, ?_⟩⟩
    have hk : Keeps (fun q => q = r) W (W.putObj r (.deferred none)) := (keeps_grown (grownBy_putObj' W r (.deferred none))).mono fun q _ e => by injection e with e; exact e.symm
    refine leaves_marks ds _ ?_ fun W' k => h W' ?_
    · clear h
      revert h4
      have : ∀ ds' : List Deferred, (∀ d' ∈ ds', ∃ r', d' = { target := .collected r', args := #[] } ∧ r' < r) → Marks ds' W → Marks ds' (W.putObj r (.deferred none)) := by
        intro ds'
        induction ds' with
        | nil => intro _ _; trivial
        | cons e es ih =>
          rintro hlt ⟨⟨r', q1, q2, q3⟩, q4⟩
          obtain ⟨r2, e1, e2⟩ := hlt e (by simp)
          have : r' = r2 := by rw [q1] at e1; injection e1 with e1; injection e1
          refine ⟨⟨r', q1, (hk.block r' (lt_of_block q2) (by omega)).trans q2, q3⟩, ih (fun d hd => hlt d (by simp [hd])) q4⟩
      exact this ds h3
    · exact (hk.mono fun q _ e => by rw [e]; simp).trans (k.mono fun q _ e => by simp [e])
end Go.Proofs.YtjmmjkoloioddaaDoor


/- A scope without a jump, a label: within a fence. No statement of the seat is proved here. -/
namespace Go.Proofs.YtjmmjkoloioddaaDoor
open Go.RowKit Go.Shelf

section
variable {P : Program} {F : Fence} {n : Nat} {b : Frame} {a : Act} {k : List Item} {cs : List Frame} {w : World} {Q : Exit → Act → World → Prop}
theorem stepR_scope {c : Code} : step P (lone (b.atR a (.code (.scope c) :: k)) cs w) = .next (lone (b.atR a (.code c :: .inScope c :: k)) cs w) :=
  step_lone_go (by simp [stepG, stepG.exec, Frame.atR])
theorem stepR_inScope {c : Code} : step P (lone (b.atR a (.inScope c :: k)) cs w) = .next (lone (b.atR a k) cs w) :=
  step_lone_go (by simp [stepG, stepG.exec, Frame.atR])
theorem wpIn_scope_straight {c : Code} (h : c.wpIn F n P (Exit.noGoto Q) a w) : (Code.scope c).wpIn F n P Q a w := by
  intro b k cs hro hb hr
  have h0 : (lone (b.atR a (.code (.scope c) :: k)) cs w).fenced P F := fenced_calm hb hr rfl
  obtain ⟨e, a₁, w₁, hq, harr⟩ := h b (.inScope c :: k) cs hro hb hr
  cases e with
  | normal => exact ⟨.normal, a₁, w₁, hq, .head h0 stepR_scope (StepsIn.trans harr (.one (fenced_calm hb hr rfl) stepR_inScope))⟩
  | exit id' =>
    have hx : exitTo id' (.inScope c :: k) = exitTo id' k := by simp [exitTo]
    exact ⟨.exit id', a₁, w₁, hq, fun k' hk => .head h0 stepR_scope (harr.1 k' (by rw [hx]; exact hk)),
      fun hr' hk => let ⟨k₁, h1, h2⟩ := harr.2 hr' (by rw [hx]; exact hk); ⟨k₁, h1, .head h0 stepR_scope h2⟩⟩
  | goto l => exact hq.elim
  | ret => exact ⟨_, a₁, w₁, hq, .of_steps (.one h0 stepR_scope) harr⟩
  | panic ch => exact ⟨_, a₁, w₁, hq, .of_steps (.one h0 stepR_scope) harr⟩
  | outgrown => exact ⟨_, a₁, w₁, hq, .of_steps (.one h0 stepR_scope) harr⟩
theorem wpIn_labelS {l : Nat} (h : Q .normal a w) : (Code.label l).wpIn F n P Q a w := fun _ _ _ _ hb hr => ⟨.normal, a, w, h, .one (fenced_calm hb hr rfl) stepR_label⟩
end
end Go.Proofs.YtjmmjkoloioddaaDoor
