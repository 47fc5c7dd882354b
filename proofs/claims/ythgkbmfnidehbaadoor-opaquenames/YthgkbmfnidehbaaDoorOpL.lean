
/- A walk of settle (layer 16). No statement of the seat is proved here. -/
import Derived.Test.YthgkbmfnidehbaaDoorOpJ
import Derived.Test.YthgkbmfnidehbaaDoorOpK
namespace Go.Proofs.YthgkbmfnidehbaaDoor
open Go.RowKit Go.Shelf

theorem Cr.len {l : List (Int × Int)} {n : Int} (h : Cr l n) : (l.length : Int) ≤ n + 1 := by
  have hi : ∀ i, (hi : i < l.length) → (i : Int) ≤ (l[i]).1 := by
    intro i
    induction i with
    | zero => intro hi; have := (h.le _ (List.getElem_mem hi)).1; omega
    | succ i ih =>
      intro hi
      have h1 := ih (by omega)
      have h2 := List.pairwise_iff_getElem.1 h.up i (i + 1) (by omega) hi (by omega)
      omega
  have hne := h.ne
  have h1 := hi (l.length - 1) (by omega)
  have h2 := (h.le _ (List.getElem_mem (show l.length - 1 < l.length by omega))).2
  omega
theorem Keeps.young2 {S T : Nat → Prop} {w a b : World} (h : Keeps T w a) (k : Keeps S a b) (hs : ∀ q, S q → w.heap.size ≤ q) : Keeps T w b :=
  ⟨k.os.trans h.os, k.tape.trans h.tape, k.output.trans h.output, Nat.le_trans h.size k.size, fun q hq ht => (k.block q (Nat.lt_of_lt_of_le hq h.size) (fun f => by have := hs q f; omega)).trans (h.block q hq ht)⟩
/-- The past's block. -/
@[reducible] def pastC (vF vT vB vW : Value) (mb : Nat) : Obj := .cells #[vF, vT, vB, vW, .map (some mb)] 53 (0, 0)
theorem wrt_filter {X : List Bx} {k : Nat} (h : k < X.length) : (X.take (k + 1)).filter (fun x => x.p.wr) = (X.take k).filter (fun x => x.p.wr) ++ (if (X[k]).p.wr then [X[k]] else []) := by
  rw [List.take_succ_eq_append_getElem h, List.filter_append]
  congr 1
  by_cases q : (X[k]).p.wr <;> simp [q]
abbrev oldR (w : World) (base : Nat) (v : Value) (Y : List Bx) : Prop := OwnR Bx.cb 9 58 w base v Y
/-- New blocks may turn. -/
theorem Keeps.old2 {w a b : World} {m : Nat} (h : Keeps (fun q => q = m) w a) (k : Keeps (fun q => q = m ∨ w.heap.size ≤ q) a b) : Keeps (fun q => q = m) w b :=
  ⟨k.os.trans h.os, k.tape.trans h.tape, k.output.trans h.output, Nat.le_trans h.size k.size, fun q hq ht => (k.block q (Nat.lt_of_lt_of_le hq h.size) (fun f => by rcases f with f | f <;> omega)).trans (h.block q hq ht)⟩
/-- What settle leaves. -/
structure SeP (w : World) (pb mb : Nat) (vF vT vB : Value) (F : List Int) (X : List Bx) (w' : World) (vW : Value) (Y : List Bx) (f : Int → Option Sl) (b1 b2 : Nat) : Prop where
  blk : w'.heap[pb]? = some (pastC vF vT vB vW mb)
  row : OwnR Bx.cb 9 58 w' b1 vW Y
  perm : Y.Perm (X.filter fun x => x.p.wr)
  up : Y.Pairwise (fun p q => p.p.la < q.p.la)
  st : StAt w' mb b2 f (setN F (Y.map (·.p)) Y.length)
  kp : Keeps (fun q => q = pb ∨ q = mb) w w'
  lo : w.heap.size ≤ b1 ∧ w.heap.size ≤ b2
set_option maxRecDepth 100000 in
set_option maxHeartbeats 8000000 in
theorem settle_any (pb mb b0 : Nat) (vF vT vB : Value) (F : List Int) (X : List Bx) (hX : X.length ≤ 1050000) (hd : DistL (X.map (·.p))) (hin : ∀ x ∈ X, ∀ e ∈ x.p.ws, 0 ≤ e.1 ∧ e.1 < (F.length : Int)) (hwl : ∀ x ∈ X, x.p.ws.length ≤ 1050000) (hpm : pb ≠ mb) (hpb : pb < b0) (hmb : mb < b0) (w : World) (bp : w.heap[pb]? = some (pastC vF vT vB (.slice none 0 0) mb)) (hm : MapS w mb (fun _ => none)) (hF : WsAt w vF F) (hFb : ∀ a n c, vF = .slice (some a) n c → a.block ≠ pb ∧ a.block ≠ mb) (hB : Bls w b0 vB X) :
    Calls Tryd.prog 19 #[.pointer (some ⟨pb, 0, none⟩)] w fun ex w' => ex = .returned (.tuple #[]) ∧ ∃ vW Y f b1 b2, SeP w pb mb vF vT vB F X w' vW Y f b1 b2 := by
  have hlp := lt_of_block bp
  have hlm := hm.lt
  obtain ⟨va, vcap, rfl, hvc⟩ := (hB.own.els cb_len).shape
  have HX : Hid (∀ Z, Keeps (fun q => q = pb ∨ q = mb) w Z → ElsAt Bx.cb 9 Z (.slice va X.length vcap) X) := fun Z k => (hB.own.keeps k fun g hg => by have := (own_block hB.own.own hg).2; omega).els cb_len
  have HW : Hid (∀ Z, Keeps (fun q => q = pb ∨ q = mb) w Z → ∀ x ∈ X, ElsAt enC 3 Z x.s.v x.p.ws) := fun Z k x hx => ((hB.rws.wt x hx).keeps k fun g hg => by have := (own_block (hB.rws.wt x hx).own hg).2; omega).els en_len
  have HFs : Hid (∀ Z, Keeps (fun q => q = pb ∨ q = mb) w Z → WsAt Z vF F) := fun Z k => hF.keepsB wC_ne k fun a n c e => by have := hFb a n c e; omega
  have HM : Hid (∀ Z, Keeps (fun q => q = pb) w Z → MapS Z mb (fun _ => none)) := fun Z k => hm.keeps k (fun e => hpm e.symm)
  have HI : Hid ((∀ x ∈ X, ∀ e ∈ x.p.ws, 0 ≤ e.1 ∧ e.1 < (F.length : Int)) ∧ DistL (X.map (·.p)) ∧ (∀ x ∈ X, x.p.ws.length ≤ 1050000)) := ⟨hin, hd, hwl⟩
  have HE : Hid (∀ Z, Keeps (fun q => q = pb ∨ q = mb) w Z → ∀ k (hk : k < X.length), ∃ g off, va = some ⟨g, off, none⟩ ∧ ∀ f u, (Bx.cb (X[k]))[f]? = some u → Z.cell? ⟨g, off + k * 9 + f, none⟩ = some u) := fun Z k j hj => (HX.out Z k).at j hj
  have p2 : w.cell? ⟨pb, 2, none⟩ = some (.slice va X.length vcap) := by rw [cell_of_block bp]; rfl
  have O0 := OwnR.nil Bx.cb 9 58 w
  clear hin hd hwl hF hFb hB hm
  go_enter Tryd.func19, Tryd.ntmps19
  go_wp2_with fail
  clear p2
  go_loopw [13] (fun u wr => ∃ (k : Nat) (v3 : Value), u = .int .i64 k ∧ k ≤ X.length ∧ Hid (wr.heap[pb]? = some (pastC vF vT (.slice va X.length vcap) v3 mb) ∧ OwnR Bx.cb 9 58 wr w.heap.size v3 ((X.take k).filter fun x => x.p.wr) ∧ Keeps (fun q => q = pb) w wr)) (fun u _ => X.length - (intOf u).toNat)
  case atStart => exact ⟨0, _, rfl, Nat.zero_le _, ⟨bp, O0, Keeps.refl _ _⟩⟩
  case round =>
    clear O0 bp
    obtain ⟨k, v3, rfl, hk, hh⟩ := hrel
    by_cases hlt : k < X.length
    · have hki : (k : Int) < X.length := by omega
      have hk0 : (0 : Int) ≤ k := by omega
      obtain ⟨bpr, hO, kr⟩ := hh.out
      obtain ⟨g, off, rfl, hc⟩ := HE.out wr (kr.mono fun q _ e => .inl e) k hlt
      have htk := wrt_filter hlt
      have hfl : ((X.take k).filter fun x => x.p.wr).length ≤ 1050000 := Nat.le_trans (List.length_filter_le _ _) (by simp; omega)
      generalize hx : X[k]'hlt = x at *
      clear hx
      obtain ⟨⟨pth, pkd, pfi, pla, pnu, pwr, per, prs, pws, psi, plk⟩, ⟨ra, rn, rc⟩, ⟨sa, sn, sc⟩⟩ := x
      have y0 := hc 0 _ rfl
      have y1 := hc 1 _ rfl
      have y2 := hc 2 _ rfl
      have y3 := hc 3 _ rfl
      have y4 := hc 4 _ rfl
      have y5 := hc 5 _ rfl
      have y6 := hc 6 _ rfl
      have y7 := hc 7 _ rfl
      have y8 := hc 8 _ rfl
      dsimp only at y0 y1 y2 y3 y4 y5 y6 y7 y8
      simp only [Nat.add_zero] at y0
      cases pwr with
      | true =>
        rw [if_pos rfl] at htk
        have kA := (Keeps.refl (fun _ => False) wr).alloc (.cells #[.int .i64 pth, .int .i64 pkd, .int .i64 pfi, .int .i64 pla, .int .u64 pnu, .bool true, .int .i64 per, .slice ra rn rc, .slice sa sn sc] 58)
        have bA := (MapKept.heap_alloc wr (.cells #[.int .i64 pth, .int .i64 pkd, .int .i64 pfi, .int .i64 pla, .int .u64 pnu, .bool true, .int .i64 per, .slice ra rn rc, .slice sa sn sc] 58)).1
        have bpA := (kA.block pb (lt_of_block bpr) (fun f => f)).trans bpr
        have hsA : (wr.alloc (.cells #[.int .i64 pth, .int .i64 pkd, .int .i64 pfi, .int .i64 pla, .int .u64 pnu, .bool true, .int .i64 per, .slice ra rn rc, .slice sa sn sc] 58)).heap.size = wr.heap.size + 1 := by simp
        obtain ⟨A, hA⟩ : ∃ A, A = wr.alloc (.cells #[.int .i64 pth, .int .i64 pkd, .int .i64 pfi, .int .i64 pla, .int .u64 pnu, .bool true, .int .i64 per, .slice ra rn rc, .slice sa sn sc] 58) := ⟨_, rfl⟩
        rw [← hA] at kA bA bpA hsA
        have oA := hO.keeps (w' := A.drew) kA.drew (fun _ _ f => f)
        obtain ⟨v', w3, r1, r2, r3⟩ := oA.push cb_len cb_one (by decide) Tryd.underlying50 info_blk rfl (by decide) (ty := 50) ⟨⟨pth, pkd, pfi, pla, pnu, true, per, prs, pws, psi, plk⟩, ⟨ra, rn, rc⟩, ⟨sa, sn, sc⟩⟩ (cs := #[.int .i64 pth, .int .i64 pkd, .int .i64 pfi, .int .i64 pla, .int .u64 pnu, .bool true, .int .i64 per, .slice ra rn rc, .slice sa sn sc]) rfl (by omega)
        rw [← htk] at r2
        have hpv : ¬ v3.ownBlock = some pb := fun e => by have := (own_block hO.own e).2; omega
        have hpv' : ∀ q, v'.ownBlock = some q → q ≠ pb := fun q hq e => by have := (own_block r2.own hq).2; omega
        have bp3 : w3.heap[pb]? = some (pastC vF vT (.slice (some ⟨g, off, none⟩) X.length vcap) v3 mb) := (r3.keeps.block pb (lt_of_block (w := A.drew) bpA) hpv).trans bpA
        have kS := (Keeps.refl (fun q => q = pb) w3).setCell (p := ⟨pb, 3, none⟩) (.inr rfl) v'
        have K3 : Keeps (fun q => q = pb) w w3 := ((kr.trans (kA.mono fun _ _ f => f.elim)).drew).young2 (r3.keeps) (fun q hq => (own_block hO.own hq).2)
        have HF : Hid ((w3.setCell ⟨pb, 3, none⟩ v').heap[pb]? = some (pastC vF vT (.slice (some ⟨g, off, none⟩) X.length vcap) v' mb) ∧ OwnR Bx.cb 9 58 (w3.setCell ⟨pb, 3, none⟩ v') w.heap.size v' ((X.take (k + 1)).filter fun x => x.p.wr) ∧ Keeps (fun q => q = pb) w (w3.setCell ⟨pb, 3, none⟩ v')) := ⟨block_set bp3 3 v', r2.keeps kS (fun q hq e => hpv' q hq e), K3.setCell (.inr rfl) _⟩
        have cellsA : ∀ i u, (#[.int .i64 pth, .int .i64 pkd, .int .i64 pfi, .int .i64 pla, .int .u64 pnu, .bool true, .int .i64 per, .slice ra rn rc, .slice sa sn sc] : Array Value)[i]? = some u → A.drew.cell? ⟨wr.heap.size, i, none⟩ = some u := fun i u hu => by rw [cell_of_block (w := A.drew) bA]; exact hu
        have hne : ¬ v3.ownBlock = some wr.heap.size := fun e => by have := (own_block hO.own e).1; omega
        have S0 : A.drew.cell? ⟨pb, 3, none⟩ = some v3 ∧ A.drew.cell? ⟨wr.heap.size, 0, none⟩ = some (.int .i64 pth) ∧ A.drew.cell? ⟨wr.heap.size, 1, none⟩ = some (.int .i64 pkd) ∧ A.drew.cell? ⟨wr.heap.size, 2, none⟩ = some (.int .i64 pfi) ∧ A.drew.cell? ⟨wr.heap.size, 3, none⟩ = some (.int .i64 pla) ∧ A.drew.cell? ⟨wr.heap.size, 4, none⟩ = some (.int .u64 pnu) ∧ A.drew.cell? ⟨wr.heap.size, 5, none⟩ = some (.bool true) ∧ A.drew.cell? ⟨wr.heap.size, 6, none⟩ = some (.int .i64 per) ∧ A.drew.cell? ⟨wr.heap.size, 7, none⟩ = some (.slice ra rn rc) ∧ A.drew.cell? ⟨wr.heap.size, 8, none⟩ = some (.slice sa sn sc) := ⟨by rw [cell_of_block (w := A.drew) bpA]; rfl, cellsA 0 _ rfl, cellsA 1 _ rfl, cellsA 2 _ rfl, cellsA 3 _ rfl, cellsA 4 _ rfl, cellsA 5 _ rfl, cellsA 6 _ rfl, cellsA 7 _ rfl, cellsA 8 _ rfl⟩
        have kC := (Keeps.refl (fun _ => False) A.drew).alloc (.cells #[.int .i64 pth, .int .i64 pkd, .int .i64 pfi, .int .i64 pla, .int .u64 pnu, .bool true, .int .i64 per, .slice ra rn rc, .slice sa sn sc] 58)
        have S1 : (A.drew.alloc (.cells #[.int .i64 pth, .int .i64 pkd, .int .i64 pfi, .int .i64 pla, .int .u64 pnu, .bool true, .int .i64 per, .slice ra rn rc, .slice sa sn sc] 58)).cell? ⟨pb, 3, none⟩ = some v3 ∧ (A.drew.alloc (.cells #[.int .i64 pth, .int .i64 pkd, .int .i64 pfi, .int .i64 pla, .int .u64 pnu, .bool true, .int .i64 per, .slice ra rn rc, .slice sa sn sc] 58)).cell? ⟨wr.heap.size, 0, none⟩ = some (.int .i64 pth) ∧ (A.drew.alloc (.cells #[.int .i64 pth, .int .i64 pkd, .int .i64 pfi, .int .i64 pla, .int .u64 pnu, .bool true, .int .i64 per, .slice ra rn rc, .slice sa sn sc] 58)).cell? ⟨wr.heap.size, 1, none⟩ = some (.int .i64 pkd) ∧ (A.drew.alloc (.cells #[.int .i64 pth, .int .i64 pkd, .int .i64 pfi, .int .i64 pla, .int .u64 pnu, .bool true, .int .i64 per, .slice ra rn rc, .slice sa sn sc] 58)).cell? ⟨wr.heap.size, 2, none⟩ = some (.int .i64 pfi) ∧ (A.drew.alloc (.cells #[.int .i64 pth, .int .i64 pkd, .int .i64 pfi, .int .i64 pla, .int .u64 pnu, .bool true, .int .i64 per, .slice ra rn rc, .slice sa sn sc] 58)).cell? ⟨wr.heap.size, 3, none⟩ = some (.int .i64 pla) ∧ (A.drew.alloc (.cells #[.int .i64 pth, .int .i64 pkd, .int .i64 pfi, .int .i64 pla, .int .u64 pnu, .bool true, .int .i64 per, .slice ra rn rc, .slice sa sn sc] 58)).cell? ⟨wr.heap.size, 4, none⟩ = some (.int .u64 pnu) ∧ (A.drew.alloc (.cells #[.int .i64 pth, .int .i64 pkd, .int .i64 pfi, .int .i64 pla, .int .u64 pnu, .bool true, .int .i64 per, .slice ra rn rc, .slice sa sn sc] 58)).cell? ⟨wr.heap.size, 5, none⟩ = some (.bool true) ∧ (A.drew.alloc (.cells #[.int .i64 pth, .int .i64 pkd, .int .i64 pfi, .int .i64 pla, .int .u64 pnu, .bool true, .int .i64 per, .slice ra rn rc, .slice sa sn sc] 58)).cell? ⟨wr.heap.size, 6, none⟩ = some (.int .i64 per) ∧ (A.drew.alloc (.cells #[.int .i64 pth, .int .i64 pkd, .int .i64 pfi, .int .i64 pla, .int .u64 pnu, .bool true, .int .i64 per, .slice ra rn rc, .slice sa sn sc] 58)).cell? ⟨wr.heap.size, 7, none⟩ = some (.slice ra rn rc) ∧ (A.drew.alloc (.cells #[.int .i64 pth, .int .i64 pkd, .int .i64 pfi, .int .i64 pla, .int .u64 pnu, .bool true, .int .i64 per, .slice ra rn rc, .slice sa sn sc] 58)).cell? ⟨wr.heap.size, 8, none⟩ = some (.slice sa sn sc) := ⟨kC.cellB (fun f => f) S0.1, kC.cellB (fun f => f) S0.2.1, kC.cellB (fun f => f) S0.2.2.1, kC.cellB (fun f => f) S0.2.2.2.1, kC.cellB (fun f => f) S0.2.2.2.2.1, kC.cellB (fun f => f) S0.2.2.2.2.2.1, kC.cellB (fun f => f) S0.2.2.2.2.2.2.1, kC.cellB (fun f => f) S0.2.2.2.2.2.2.2.1, kC.cellB (fun f => f) S0.2.2.2.2.2.2.2.2.1, kC.cellB (fun f => f) S0.2.2.2.2.2.2.2.2.2⟩
        have S2 : w3.cell? ⟨pb, 3, none⟩ = some v3 ∧ w3.cell? ⟨wr.heap.size, 0, none⟩ = some (.int .i64 pth) ∧ w3.cell? ⟨wr.heap.size, 1, none⟩ = some (.int .i64 pkd) ∧ w3.cell? ⟨wr.heap.size, 2, none⟩ = some (.int .i64 pfi) ∧ w3.cell? ⟨wr.heap.size, 3, none⟩ = some (.int .i64 pla) ∧ w3.cell? ⟨wr.heap.size, 4, none⟩ = some (.int .u64 pnu) ∧ w3.cell? ⟨wr.heap.size, 5, none⟩ = some (.bool true) ∧ w3.cell? ⟨wr.heap.size, 6, none⟩ = some (.int .i64 per) ∧ w3.cell? ⟨wr.heap.size, 7, none⟩ = some (.slice ra rn rc) ∧ w3.cell? ⟨wr.heap.size, 8, none⟩ = some (.slice sa sn sc) := ⟨r3.keeps.cellB hpv S0.1, r3.keeps.cellB hne S0.2.1, r3.keeps.cellB hne S0.2.2.1, r3.keeps.cellB hne S0.2.2.2.1, r3.keeps.cellB hne S0.2.2.2.2.1, r3.keeps.cellB hne S0.2.2.2.2.2.1, r3.keeps.cellB hne S0.2.2.2.2.2.2.1, r3.keeps.cellB hne S0.2.2.2.2.2.2.2.1, r3.keeps.cellB hne S0.2.2.2.2.2.2.2.2.1, r3.keeps.cellB hne S0.2.2.2.2.2.2.2.2.2⟩
        have fz : w3.frozen? ⟨pb, 3, none⟩ = false := frozen_of_block bp3 _
        have AA : A.drew.heap.size = A.heap.size := rfl
        rw [AA] at r1
        obtain ⟨ub, uc, rfl⟩ := hO.form
        obtain ⟨⟨ta, tn, tc⟩, rfl, -⟩ := sl_of r2
        dsimp only [Sl.v] at r1 HF
        have HA : Hid (_ = _) := r1
        generalize ((X.take k).filter fun x => x.p.wr).length = m1 at *
        have HAA : Hid (A = _) := hA
        clear r1 r2 r3 oA bpA bA kA kC kS K3 hO hh bpr hsA htk hpv hpv' cellsA hne AA hc bp3 hfl
        go_wp2_with fail
        rw [← hA]
        clear y0 y1 y2 y3 y4 y5 y6 y7 y8
        clear hA
        refine wp_until (S := (fun W : World => W.cell? ⟨pb, 3, none⟩ = some (.slice ub m1 uc) ∧ W.cell? ⟨wr.heap.size, 0, none⟩ = some (.int .i64 pth) ∧ W.cell? ⟨wr.heap.size, 1, none⟩ = some (.int .i64 pkd) ∧ W.cell? ⟨wr.heap.size, 2, none⟩ = some (.int .i64 pfi) ∧ W.cell? ⟨wr.heap.size, 3, none⟩ = some (.int .i64 pla) ∧ W.cell? ⟨wr.heap.size, 4, none⟩ = some (.int .u64 pnu) ∧ W.cell? ⟨wr.heap.size, 5, none⟩ = some (.bool true) ∧ W.cell? ⟨wr.heap.size, 6, none⟩ = some (.int .i64 per) ∧ W.cell? ⟨wr.heap.size, 7, none⟩ = some (.slice ra rn rc) ∧ W.cell? ⟨wr.heap.size, 8, none⟩ = some (.slice sa sn sc))) 10 11 rfl hmxp ?_
        simp only [Array.replicate_succ, Array.replicate_zero, List.push_toArray, List.nil_append, List.cons_append]
        refine u_take (i := 0) (v := (.pointer (some ⟨pb, 0, none⟩))) 19 rfl rfl (by kernel_rfl) (by kernel_rfl) (by kernel_rfl) (by kernel_rfl) rfl (fun w' hw' => by obtain ⟨q0, q1, q2, q3, q4, q5, q6, q7, q8, q9⟩ := hw'; go_simp) S0 ?_
        simp only [Act.put, List.setIfInBounds_toArray, List.set_cons_zero, List.set_cons_succ]
        refine u_take (i := 1) (v := (.pointer (some ⟨pb, 0, none⟩))) 20 rfl rfl (by kernel_rfl) (by kernel_rfl) (by kernel_rfl) (by kernel_rfl) rfl (fun w' hw' => by obtain ⟨q0, q1, q2, q3, q4, q5, q6, q7, q8, q9⟩ := hw'; go_simp) S0 ?_
        simp only [Act.put, List.setIfInBounds_toArray, List.set_cons_zero, List.set_cons_succ]
        refine u_take (i := 2) (v := (.pointer (some ⟨pb, 0, none⟩))) 21 rfl rfl (by kernel_rfl) (by kernel_rfl) (by kernel_rfl) (by kernel_rfl) rfl (fun w' hw' => by obtain ⟨q0, q1, q2, q3, q4, q5, q6, q7, q8, q9⟩ := hw'; go_simp) S0 ?_
        simp only [Act.put, List.setIfInBounds_toArray, List.set_cons_zero, List.set_cons_succ]
        refine u_take (i := 3) (v := (.pointer (some ⟨pb, 3, none⟩))) 22 rfl rfl (by kernel_rfl) (by kernel_rfl) (by kernel_rfl) (by kernel_rfl) rfl (fun w' hw' => by obtain ⟨q0, q1, q2, q3, q4, q5, q6, q7, q8, q9⟩ := hw'; go_simp) S0 ?_
        simp only [Act.put, List.setIfInBounds_toArray, List.set_cons_zero, List.set_cons_succ]
        refine u_take (i := 4) (v := (.slice ub m1 uc)) 23 rfl rfl (by kernel_rfl) (by kernel_rfl) (by kernel_rfl) (by kernel_rfl) rfl (fun w' hw' => by obtain ⟨q0, q1, q2, q3, q4, q5, q6, q7, q8, q9⟩ := hw'; go_simp) S0 ?_
        simp only [Act.put, List.setIfInBounds_toArray, List.set_cons_zero, List.set_cons_succ]
        refine u_take (i := 5) (v := (.agg #[.int .i64 pth, .int .i64 pkd, .int .i64 pfi, .int .i64 pla, .int .u64 pnu, .bool true, .int .i64 per, .slice ra rn rc, .slice sa sn sc])) 24 rfl rfl (by kernel_rfl) (by kernel_rfl) (by kernel_rfl) (by kernel_rfl) rfl (fun w' hw' => by obtain ⟨q0, q1, q2, q3, q4, q5, q6, q7, q8, q9⟩ := hw'; go_simp) S0 ?_
        simp only [Act.put, List.setIfInBounds_toArray, List.set_cons_zero, List.set_cons_succ]
        refine u_val (i := 6) (v := (.slice (some ⟨A.heap.size, 0, none⟩) 1 1)) (w' := A.drew.alloc (.cells #[.int .i64 pth, .int .i64 pkd, .int .i64 pfi, .int .i64 pla, .int .u64 pnu, .bool true, .int .i64 per, .slice ra rn rc, .slice sa sn sc] 58)) (some 25) (by kernel_rfl) rfl rfl rfl (by go_simp) S1 ?_
        simp only [Act.put, List.setIfInBounds_toArray, List.set_cons_zero, List.set_cons_succ]
        refine u_val (i := 7) (v := (.slice ta tn tc)) (w' := w3) (some 26) (by kernel_rfl) rfl rfl rfl (run_append_op rfl rfl rfl HA.out) S2 ?_
        simp only [Act.put, List.setIfInBounds_toArray, List.set_cons_zero, List.set_cons_succ]
        refine u_val (i := 8) (v := (.pointer (some ⟨pb, 0, none⟩))) (w' := w3) (some 27) (by kernel_rfl) rfl rfl rfl (by go_simp) S2 ?_
        simp only [Act.put, List.setIfInBounds_toArray, List.set_cons_zero, List.set_cons_succ]
        refine u_val (i := 9) (v := (.pointer (some ⟨pb, 3, none⟩))) (w' := w3) (some 28) (by kernel_rfl) rfl rfl rfl (by go_simp) S2 ?_
        simp only [Act.put, List.setIfInBounds_toArray, List.set_cons_zero, List.set_cons_succ]
        refine u_last (w' := w3.setCell ⟨pb, 3, none⟩ (.slice ta tn tc)) (by kernel_rfl) rfl rfl rfl (by obtain ⟨q0, _⟩ := S2; go_simp) (by kernel_rfl) ?_
        clear S0 S1 S2 fz HA HAA
        generalize w3.setCell ⟨pb, 3, none⟩ (.slice ta tn tc) = Z at *
        go_wp2_with fail
        go_roundw
        · exact ⟨k + 1, _, by simp, by omega, HF.out⟩
        · simp [intOf]; omega
      | false =>
        rw [if_neg Bool.false_ne_true, List.append_nil] at htk
        have kA := (Keeps.refl (fun _ => False) wr).alloc (.cells #[.int .i64 pth, .int .i64 pkd, .int .i64 pfi, .int .i64 pla, .int .u64 pnu, .bool false, .int .i64 per, .slice ra rn rc, .slice sa sn sc] 58)
        have HF : Hid ((wr.alloc (.cells #[.int .i64 pth, .int .i64 pkd, .int .i64 pfi, .int .i64 pla, .int .u64 pnu, .bool false, .int .i64 per, .slice ra rn rc, .slice sa sn sc] 58)).heap[pb]? = some (pastC vF vT (.slice (some ⟨g, off, none⟩) X.length vcap) v3 mb) ∧ OwnR Bx.cb 9 58 (wr.alloc (.cells #[.int .i64 pth, .int .i64 pkd, .int .i64 pfi, .int .i64 pla, .int .u64 pnu, .bool false, .int .i64 per, .slice ra rn rc, .slice sa sn sc] 58)) w.heap.size v3 ((X.take (k + 1)).filter fun x => x.p.wr) ∧ Keeps (fun q => q = pb) w (wr.alloc (.cells #[.int .i64 pth, .int .i64 pkd, .int .i64 pfi, .int .i64 pla, .int .u64 pnu, .bool false, .int .i64 per, .slice ra rn rc, .slice sa sn sc] 58))) := ⟨(kA.block pb (lt_of_block bpr) (fun f => f)).trans bpr, by rw [htk]; exact hO.keeps kA (fun _ _ f => f), kr.trans (kA.mono fun _ _ f => f.elim)⟩
        clear kA hO hh bpr htk hc hfl
        go_wp2_with fail
        go_roundw
        · exact ⟨k + 1, _, by simp, by omega, HF.out⟩
        · simp [intOf]; omega
    · obtain rfl : k = X.length := by omega
      obtain ⟨bpr, hO, kr⟩ := hh.out
      rw [List.take_length] at hO
      clear hh HE
      have hfl : (X.filter fun x => x.p.wr).length ≤ X.length := List.length_filter_le _ _
      have SO := sortB_any (X.filter fun x => x.p.wr) (by omega) hO
      have q3 : wr.cell? ⟨pb, 3, none⟩ = some v3 := by rw [cell_of_block bpr]; rfl
      have hpv : ∀ q, v3.ownBlock = some q → w.heap.size ≤ q := fun q e => (own_block hO.own e).2
      obtain ⟨ub, uc, rfl⟩ := hO.form
      generalize hfz : (X.filter fun x => x.p.wr).length = m1 at *
      have HM1 : Hid ((X.filter fun x => x.p.wr).length = m1) := hfz
      clear hfz
      go_wp2_with fail
      refine SO.mono ?_
      rintro ex w2 ⟨rfl, Y, oY, hperm, hsort, k2⟩
      clear SO q3
      have K2 : Keeps (fun q => q = pb) w w2 := kr.young2 k2 hpv
      have bp2 : w2.heap[pb]? = some (pastC vF vT (.slice va X.length vcap) (.slice ub m1 uc) mb) := (k2.block pb (lt_of_block bpr) (fun e => by have := hpv _ e; omega)).trans bpr
      have hYl : Y.length = m1 := by rw [hperm.length_eq, HM1.out]
      have hYX : ∀ y ∈ Y, y ∈ X := fun y hy => (List.mem_filter.1 (hperm.mem_iff.1 hy)).1
      have hup : Y.Pairwise (fun p q => p.p.la < q.p.la) := by
        have hd : DistL (Y.map (·.p)) := by
          unfold DistL
          have h1 : ((X.filter fun x => x.p.wr).map (fun x => x.p.la)).Sublist (X.map fun x => x.p.la) := List.Sublist.map _ List.filter_sublist
          have h2 : (X.map fun x => x.p.la).Nodup := by have := HI.out.2.1; unfold DistL at this; rw [List.map_map] at this; exact this
          rw [List.map_map]
          exact (hperm.map _).nodup_iff.2 (h1.nodup h2)
        have := wr_strict (Z := Y.map (·.p)) hd (List.pairwise_map.2 hsort)
        rw [List.pairwise_map] at this
        exact this
      have SI : Hid (∀ k, k ≤ (Y.map (·.p)).length → SInv F (setN F (Y.map (·.p)) k) k (fun m => stN F (Y.map (·.p)) (min m.toNat k))) := sinv_all fun p hp e he => by
        obtain ⟨y, hy, rfl⟩ := List.mem_map.1 hp
        exact HI.out.1 y (hYX y hy) e he
      have hm2 := HM.out w2 K2
      have ST0 : StAt w2 mb w2.heap.size (fun _ => none) (setN F (Y.map (·.p)) 0) := ⟨hm2, fun _ => rfl, fun a s e => (by cases e), fun a b s t q e => (by cases e), hm2.lt⟩
      have eY := oY.els cb_len
      have HY : Hid (∀ Z, Keeps (fun q => q = mb) w2 Z → ElsAt Bx.cb 9 Z (.slice ub m1 uc) Y) := fun Z k => (oY.keeps k fun g hg e => by have := (own_block oY.own hg).2; omega).els cb_len
      have HK : Hid (∀ Z, Keeps (fun q => q = mb) w2 Z → Keeps (fun q => q = pb ∨ q = mb) w Z) := fun Z k => (K2.mono fun q _ e => .inl e).trans (k.mono fun q _ e => .inr e)
      have HP : Hid (∀ Z, Keeps (fun q => q = mb) w2 Z → Z.heap[pb]? = some (pastC vF vT (.slice va X.length vcap) (.slice ub m1 uc) mb)) := fun Z k => (k.block pb (lt_of_block bp2) (fun e => hpm e)).trans bp2
      have HPC : Hid (∀ Z, Keeps (fun q => q = mb) w2 Z → Z.cell? ⟨pb, 0, none⟩ = some vF ∧ Z.cell? ⟨pb, 4, none⟩ = some (.map (some mb))) := fun Z k => ⟨by rw [cell_of_block (HP.out Z k)]; rfl, by rw [cell_of_block (HP.out Z k)]; rfl⟩
      have p3 : w2.cell? ⟨pb, 3, none⟩ = some (.slice ub m1 uc) := by rw [cell_of_block bp2]; rfl
      have HR : Hid (oldR w2 w.heap.size (.slice ub m1 uc) Y ∧ Y.Perm (X.filter fun x => x.p.wr) ∧ Y.Pairwise (fun p q => p.p.la < q.p.la) ∧ w.heap.size ≤ w2.heap.size) := ⟨oY, hperm, hup, K2.size⟩
      have HQ : Hid (∀ y ∈ Y, y ∈ X) := hYX
      have hm1 : m1 ≤ 1050000 := by have := HM1.out; omega
      have HYl : Hid (Y.length = m1) := hYl
      have hs2 : pb < w2.heap.size := lt_of_block bp2
      clear hYl oY hperm hsort hup hYX eY bp2 bpr hO kr k2 K2 hpv hm2 hfl
      go_wp2_with fail
      clear p3
      go_loopw [40] (fun u wr => ∃ (n : Nat) (f : Int → Option Sl), u = .int .i64 n ∧ n ≤ m1 ∧ Hid (StAt wr mb w2.heap.size f (setN F (Y.map (·.p)) n)) ∧ Keeps (fun q => q = mb) w2 wr) (fun u _ => m1 - (intOf u).toNat)
      case atStart => exact ⟨0, _, rfl, Nat.zero_le _, ST0, Keeps.refl _ _⟩
      case round =>
        clear ST0
        obtain ⟨W1, hW1⟩ : ∃ W1, W1 = wr := ⟨_, rfl⟩
        subst hW1
        obtain ⟨n, f, rfl, hn, hst, kn⟩ := hrel
        by_cases hltn : n < m1
        · have hni : (n : Int) < m1 := by omega
          have hn0 : (0 : Int) ≤ n := by omega
          have hnY : n < Y.length := by have := HYl.out; omega
          obtain ⟨g, off, rfl, hc⟩ := (HY.out W1 kn).at n hnY
          have hyX := HQ.out (Y[n]) (List.getElem_mem hnY)
          have HWn : Hid (∀ Z, Keeps (fun q => q = mb) w2 Z → ElsAt enC 3 Z (Y[n]).s.v (Y[n]).p.ws) := fun Z k => HW.out Z (HK.out Z k) _ hyX
          have hwn := HI.out.2.2 _ hyX
          have HIn : Hid (∀ e ∈ (Y[n]).p.ws, 0 ≤ e.1 ∧ e.1 < (F.length : Int)) := HI.out.1 _ hyX
          have HSn : Hid (setN F (Y.map (·.p)) (n + 1) = putW F (setN F (Y.map (·.p)) n) ((n : Int) + 1) (Y[n]).p.ws) := by
            show putW F (setN F (Y.map (·.p)) n) ((n : Int) + 1) (((Y.map (·.p))[n]?).getD pt0).ws = _
            rw [List.getElem?_map, List.getElem?_eq_getElem hnY]; rfl
          have wn1 : IntKind.i64.wrap ((n : Int) + 1) = (n : Int) + 1 := by rw [IntKind.wrap_i64]; omega
          generalize hy : Y[n]'hnY = y at *
          clear hy hyX
          obtain ⟨⟨pth, pkd, pfi, pla, pnu, pwr, per, prs, pws, psi, plk⟩, ⟨ra, rn, rc⟩, ⟨sa, sn, sc⟩⟩ := y
          dsimp only [Sl.v] at HWn HIn HSn hwn
          obtain ⟨sa', cap', hsv, hcap'⟩ := (HWn.out W1 kn).shape
          injection hsv with e1 e2 e3
          subst e1 e2 e3
          have y0 := hc 0 _ rfl
          have y1 := hc 1 _ rfl
          have y2 := hc 2 _ rfl
          have y3 := hc 3 _ rfl
          have y4 := hc 4 _ rfl
          have y5 := hc 5 _ rfl
          have y6 := hc 6 _ rfl
          have y7 := hc 7 _ rfl
          have y8 := hc 8 _ rfl
          dsimp only at y0 y1 y2 y3 y4 y5 y6 y7 y8
          simp only [Nat.add_zero] at y0
          have kA := kn.trans (((Keeps.refl (fun _ => False) W1).alloc (.cells #[.int .i64 pth, .int .i64 pkd, .int .i64 pfi, .int .i64 pla, .int .u64 pnu, .bool pwr, .int .i64 per, .slice ra rn rc, .slice sa pws.length sc] 58)).mono fun _ _ f => f.elim)
          have ST1 : Hid (StAt (W1.alloc (.cells #[.int .i64 pth, .int .i64 pkd, .int .i64 pfi, .int .i64 pla, .int .u64 pnu, .bool pwr, .int .i64 per, .slice ra rn rc, .slice sa pws.length sc] 58)) mb w2.heap.size f (putW F (setN F (Y.map (·.p)) n) ((n : Int) + 1) (pws.take 0))) := hst.out.keeps ((Keeps.refl (fun _ => False) W1).alloc (.cells #[.int .i64 pth, .int .i64 pkd, .int .i64 pfi, .int .i64 pla, .int .u64 pnu, .bool pwr, .int .i64 per, .slice ra rn rc, .slice sa pws.length sc] 58)) (fun f => f) (fun _ _ _ f => f)
          clear hst hc
          go_wp2_with fail
          clear y0 y1 y2 y3 y4 y5 y6 y7 y8
          go_loopw [48] (fun u wr => ∃ (j : Nat) (f : Int → Option Sl), u = .int .i64 j ∧ j ≤ pws.length ∧ Hid (StAt wr mb w2.heap.size f (putW F (setN F (Y.map (·.p)) n) ((n : Int) + 1) (pws.take j))) ∧ Keeps (fun q => q = mb) w2 wr) (fun u _ => pws.length - (intOf u).toNat)
          case atStart => exact ⟨0, _, rfl, Nat.zero_le _, ST1, kA⟩
          case round =>
            clear ST1 kA
            obtain ⟨j, f, rfl, hj, hst, kj⟩ := hrel
            by_cases hltj : j < pws.length
            · have hji : (j : Int) < pws.length := by omega
              have hj0 : (0 : Int) ≤ j := by omega
              obtain ⟨g2, off2, rfl, hc⟩ := (HWn.out wr kj).at j hltj
              have hine := HIn.out _ (List.getElem_mem hltj)
              have htk : pws.take (j + 1) = pws.take j ++ [pws[j]] := List.take_succ_eq_append_getElem hltj
              have hpu := putW_push F (setN F (Y.map (·.p)) n) ((n : Int) + 1) (pws.take j) (pws[j])
              rw [← htk] at hpu
              have hsi := sinv_in (W := Y.map (·.p)) (SI.out n (by have := HYl.out; simp; omega)) HIn.out j (by omega)
              have hcr := hsi.cr (pws[j]).1 hine.1 hine.2
              have hcl := hcr.len
              generalize hx : pws[j]'hltj = x at *
              clear hx
              obtain ⟨ad, wd⟩ := x
              have y0 := hc 0 _ rfl
              have y1 := hc 1 _ rfl
              have y2 := hc 2 _ rfl
              dsimp only at y0 y1 y2 hine hcr hcl
              simp only [Nat.add_zero] at y0
              have kB := (Keeps.refl (fun _ => False) wr).alloc (.cells #[.int .u64 ad, .int .u64 wd, .bool false] 60)
              have hsz := kj.size
              have kjB := kj.trans (kB.mono fun _ _ f => f.elim)
              have WR := write_any pb mb w2.heap.size f _ ((n : Int) + 1) _ ad wd vF F (by omega) hine.1 hine.2 hcr (by have : (if j = 0 then (n : Int) else (n : Int) + 1) ≤ (n : Int) + 1 := (by split <;> omega); omega) (wr.alloc (.cells #[.int .u64 ad, .int .u64 wd, .bool false] 60)) (HPC.out _ kjB).1 (HPC.out _ kjB).2 hs2 kjB.size (HFs.out _ (HK.out _ kjB)) (hst.out.keeps kB (fun f => f) (fun _ _ _ f => f))
              unfold WrP at WR
              rw [← hpu] at WR
              clear hst hc hine htk hpu hsi hcr hcl
              go_wp2_with fail
              refine WR.mono ?_
              rintro ex w5 ⟨rfl, ⟨f', st5⟩, k5⟩
              have HF : Hid (StAt w5 mb w2.heap.size f' (putW F (setN F (Y.map (·.p)) n) ((n : Int) + 1) (pws.take (j + 1))) ∧ Keeps (fun q => q = mb) w2 w5) := ⟨st5, kjB.old2 k5⟩
              clear WR st5 k5 kB kjB y0 y1 y2
              go_wp2_with fail
              go_roundw
              · exact ⟨j + 1, f', by simp, by omega, HF.out.1, HF.out.2⟩
              · simp [intOf]; omega
            · obtain rfl : j = pws.length := by omega
              have HF : Hid (StAt wr mb w2.heap.size f (setN F (Y.map (·.p)) (n + 1))) := by rw [HSn.out]; have := hst.out; rw [List.take_length] at this; exact this
              clear hst
              go_wp2_with fail
              go_roundw
              · exact ⟨n + 1, f, by simp, by omega, HF.out, kj⟩
              · simp [intOf]; omega
        · obtain rfl : n = m1 := by omega
          have HF : Hid (∃ vW Y f b1 b2, SeP w pb mb vF vT (.slice va X.length vcap) F X W1 vW Y f b1 b2) := by
            obtain ⟨oY, hperm, hup, hle⟩ := HR.out
            refine ⟨.slice ub n uc, Y, f, w.heap.size, w2.heap.size, HP.out _ kn, OwnR.keeps oY kn (fun g hg e => by have := (own_block (OwnR.own oY) hg).2; omega), hperm, hup, ?_, HK.out _ kn, Nat.le_refl _, hle⟩
            rw [HYl.out]; exact hst.out
          clear hst
          go_wp2_with fail
          go_end0
          exact ⟨rfl, HF.out⟩
end Go.Proofs.YthgkbmfnidehbaaDoor
