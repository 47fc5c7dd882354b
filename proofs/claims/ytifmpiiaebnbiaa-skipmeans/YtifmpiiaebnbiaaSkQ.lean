
/- The walk of each (layer 22). No statement of the seat is proved here. -/
import Derived.Test.YtifmpiiaebnbiaaSkJ
namespace Go.Proofs.Ytifmpiiaebnbiaa
open Go.RowKit

/-- A closure that is told words: J holds of what it was told so far, Fp are the blocks that it owns. -/
structure Tel (fn kq : Nat) (J : List Int → World → Prop) (Fp : World → Nat → Prop) : Prop where
  ent : ∀ (args : Array Value) (X : World), (callFunc fn args).run Try.prog X = .ok (.enter fn args) X
  call : ∀ (X : World) (out : List Int) (k : Int), out.length ≤ 65536 → J out X → Calls Try.prog fn #[.int .u64 k, .pointer (some ⟨kq, 0, none⟩)] X fun e X' => e = .returned (.tuple #[]) ∧ J (out ++ [k]) X' ∧ Keeps (Fp X) X X' ∧ ∀ i, Fp X' i → Fp X i ∨ X.heap.size ≤ i
  keep : ∀ {S : Nat → Prop} {X X' : World} {out : List Int}, J out X → Keeps S X X' → (∀ k, S k → ¬ Fp X k) → J out X' ∧ ∀ k, Fp X' k → Fp X k
  lt : ∀ {X : World} {out : List Int} {k : Nat}, J out X → Fp X k → k < X.heap.size
/-- What stands while words are told: from the world w on; the walk's block pw, the link's block q. -/
structure Ea (J : List Int → World → Prop) (Fp : World → Nat → Prop) (w : World) (b g c : Nat) (X : World) (s : Wd) (out : List Int) : Prop where
  hs : Hs 27 w b g c X s
  j : J out X
  fp : ∀ k, Fp X k → w.heap.size ≤ k ∧ ¬ own X b g k
section
variable {fn kq : Nat} {J : List Int → World → Prop} {Fp : World → Nat → Prop} {w X X' : World} {b g c pw q n : Nat} {s s' : Wd} {out : List Int} {o : Obj}
theorem Ea.acc (E : Tel fn kq J Fp) (h : Ea J Fp w b g c X s out) {S : Nat → Prop} (k : Kq S b g X X') (wd : WdAt 27 X' b g c s') (hS : ∀ i, S i → w.heap.size ≤ i ∧ ¬ Fp X i) : Ea J Fp w b g c X' s' out ∧ ∀ i, Fp X' i → Fp X i := by
  obtain ⟨hj, hf⟩ := E.keep h.j k.k (fun i e f => by
    rcases e with e | e
    · exact (h.fp i f).2 e
    · exact (hS i e).2 f)
  refine ⟨⟨h.hs.acc k wd (fun i e => (hS i e).1), hj, fun i e => ⟨(h.fp i (hf i e)).1, fun eo => ?_⟩⟩, hf⟩
  rcases k.f i eo with r | r
  · exact (h.fp i (hf i e)).2 r
  · have := E.lt h.j (hf i e); omega
theorem Ea.new (E : Tel fn kq J Fp) (h : Ea J Fp w b g c X s out) (k : Keeps (fun _ => False) X X') : Ea J Fp w b g c X' s out ∧ ∀ i, Fp X' i → Fp X i :=
  h.acc E ((Kq.of h.hs.wd.ltb k (fun _ _ f => f))) (h.hs.wd.kept k (fun _ _ f => f)) (fun _ f => f.elim)
theorem Ea.call (h : Ea J Fp w b g c X s out) {out' : List Int} (hj : J out' X') (k : Keeps (Fp X) X X') (hf : ∀ i, Fp X' i → Fp X i ∨ X.heap.size ≤ i) : Ea J Fp w b g c X' s out' := by
  have ho := own_kept h.hs.wd.ltb k (fun i hi f => (h.fp i f).2 hi)
  refine ⟨h.hs.step k (fun i f => h.fp i f), hj, fun i e => ?_⟩
  rcases hf i e with r | r
  · exact ⟨(h.fp i r).1, fun eo => (h.fp i r).2 ((ho i).1 eo)⟩
  · refine ⟨Nat.le_trans h.hs.k.k.size r, fun eo => ?_⟩
    have := h.hs.wd.lto ((ho i).1 eo)
    omega
/-- A block that is neither the tx's nor the closure's. -/
structure Lp (Fp : World → Nat → Prop) (X : World) (b g q : Nat) (o : Obj) : Prop where
  lo : Lo X b g q o
  nf : ¬ Fp X q
theorem Lp.on (h : Lp Fp X b g q o) {S : Nat → Prop} (k : Kq S b g X X') (hf : ∀ i, Fp X' i → Fp X i) (hq : ¬ S q) : Lp Fp X' b g q o := ⟨h.lo.kq k hq, fun e => h.nf (hf q e)⟩
theorem Lp.call (h : Lp Fp X b g q o) (he : Ea J Fp w b g c X s out) (k : Keeps (Fp X) X X') (hf : ∀ i, Fp X' i → Fp X i ∨ X.heap.size ≤ i) : Lp Fp X' b g q o := by
  refine ⟨h.lo.keeps he.hs.wd.ltb k (fun i hi f => (he.fp i f).2 hi) h.nf, fun e => ?_⟩
  rcases hf q e with r | r
  · exact h.nf r
  · have := h.lo.lt; omega
end
/-- What stands at a round's beginning. -/
structure Er (J : List Int → World → Prop) (Fp : World → Nat → Prop) (w0 w : World) (b g c q : Nat) (s : Wd) (at_ : Int) (X : World) (f : Nat) (out : List Int) (l : Lk) (e : Int) (n : Nat) (s' : Wd) : Prop where
  ea : Ea J Fp w0 b g c X s' out
  pw : Lp Fp X b g w.heap.size (wkO b n)
  ql : Lp Fp X b g q (lkO l)
  eq : s.each at_ = eachL f out l e n s'
  fu : e = 0 ∧ l.t ≠ 0 → 65536 < f + n ∧ out.length + 1 ≤ n
  le : out.length ≤ n
  nl : n ≤ 65536
  rm : Rm s' (2 * f)
def flagE (er : Value) (w : World) (q : Nat) : Nat := match er with
  | .int _ e => (match w.heap[q]? with
    | some (.cells cs _ _) => (match cs[1]? with
      | some (Value.int _ t) => if e = 0 ∧ t ≠ 0 then 1 else 0
      | _ => 0)
    | _ => 0)
  | _ => 0
theorem flagE_of {w : World} {q : Nat} {l : Lk} {e : Int} (h : w.heap[q]? = some (lkO l)) : flagE (.int .i64 e) w q = if e = 0 ∧ l.t ≠ 0 then 1 else 0 := by
  unfold flagE
  rw [h]
  rfl
set_option maxRecDepth 100000 in
set_option maxHeartbeats 4000000 in
theorem each_any {fn kq : Nat} {J : List Int → World → Prop} {Fp : World → Nat → Prop} (E : Tel fn kq J Fp) (b g c : Nat) (s : Wd) (at_ : Int) (hat : isW at_) (rms : Rm s 131100) (w0 w : World) (h : Ea J Fp w0 b g c w s []) :
    Calls Try.prog 38 #[.iface 23 (.pointer (some ⟨b, 0, none⟩)), .int .u64 at_, .func (.func fn) #[] #[.pointer (some ⟨kq, 0, none⟩)]] w fun e w' => e = .returned (.int .i64 (s.each at_).1.2) ∧ Ea J Fp w0 b g c w' (s.each at_).2 (s.each at_).1.1 := by
  have hent := E.ent
  have oks := h.hs.wd.ok
  have HW0 : Hid (w0.heap.size ≤ w.heap.size) := hid h.hs.k.k.size
  have HST : Hid (Ea J Fp w0 b g c (w.alloc (wkO b 0)) s [] ∧ Lp Fp (w.alloc (wkO b 0)) b g w.heap.size (wkO b 0)) := by
    have q := h.new E (keeps_new w (wkO b 0))
    exact hid ⟨q.1, Lo.new h.hs.wd _, fun e => by have := E.lt h.j (q.2 _ e); omega⟩
  clear h
  obtain ⟨⟨⟨⟨l1, l2, l3⟩, e⟩, n, s1⟩, eq1⟩ : ∃ r, s.fol 0 at_ = r := ⟨_, rfl⟩
  have HOK : Hid (FolOk s 0 ((⟨l1, l2, l3⟩, e), n, s1)) := by
    have q := fol_ok oks 0 hat
    rw [eq1] at q
    exact hid q
  have HEQ : Hid (s.each at_ = eachL FU [] ⟨l1, l2, l3⟩ e n s1) := by
    unfold Wd.each
    rw [eq1]
    exact hid rfl
  have HE : Hid (_ = _) := eq1
  clear eq1
  go_enter Try.func38, Try.ntmps38
  go_wp2_with fail
  refine (follow_r HE (by omega) hat (rms.le (by omega)) HST.out.1.hs.wd HST.out.2.lo).mono ?_
  rintro e_ w1 ⟨rfl, h1⟩
  have H1 : Hid (Ea J Fp w0 b g c w1 s1 [] ∧ Lp Fp w1 b g w.heap.size (wkO b n)) := by
    have hw := HW0.out
    have q := HST.out.1.acc E h1.k h1.wd (fun i e => by subst e; exact ⟨hw, HST.out.2.nf⟩)
    exact hid ⟨q.1, h1.pw, fun e => HST.out.2.nf (q.2 _ e)⟩
  clear HST h1 HE
  have HR : Hid (Er J Fp w0 w b g c w1.heap.size s at_ (w1.alloc (lkO ⟨l1, l2, l3⟩)) FU [] ⟨l1, l2, l3⟩ e n s1) := by
    have kn := keeps_new w1 (lkO ⟨l1, l2, l3⟩)
    have h1 := H1.out
    have q := h1.1.new E kn
    have hok := HOK.out
    have hn1 : n ≤ 65536 := hok.le (by omega)
    have hlen : s1.L.length ≤ s.L.length + 2 := hok.len
    refine hid ⟨q.1, h1.2.on (Kq.of h1.1.hs.wd.ltb kn (fun _ _ f => f)) q.2 (fun f => f), ⟨Lo.new h1.1.hs.wd _, fun e => ?_⟩, HEQ.out, fun hf => ?_, by simp, hn1, ?_⟩
    · have := E.lt h1.1.j (q.2 _ e); omega
    · have := hok.up hf.1 hf.2
      have e1 : n = 0 + 1 := this
      unfold FU
      simp
      omega
    · unfold Rm FU at *
      omega
  have hwn : w.heap.size ≠ w1.heap.size := Nat.ne_of_lt H1.out.2.lo.lt
  have HW1 : Hid (w0.heap.size ≤ w1.heap.size) := hid H1.out.1.hs.k.k.size
  clear H1 HOK HEQ
  unfold Lk.v
  go_wp2_with fail
  go_loopw [9] (fun er wr => ∃ (f : Nat) (out : List Int) (l : Lk) (e : Int) (n : Nat) (s' : Wd), er = .int .i64 e ∧ Hid (Er J Fp w0 w b g c w1.heap.size s at_ wr f out l e n s')) (fun er wr => 2 * measN wr w.heap.size + flagE er wr w1.heap.size)
  case atStart => exact ⟨FU, [], _, e, n, s1, rfl, HR⟩
  case round =>
    obtain ⟨f, out, ⟨l1, l2, l3⟩, e, n, s', rfl, HY⟩ := hrel
    clear HR
    have hq := HY.out.ql.lo.at_
    have p0 := lk_c0 hq
    have p1 := lk_c1 hq
    have p2 := lk_c2 hq
    dsimp only at p0 p1 p2
    clear hq
    by_cases he : e = 0
    · subst he
      by_cases hl2 : l2 = 0
      · subst hl2
        have HEQ : Hid (s.each at_ = ((out, 0), s')) := by
          rw [HY.out.eq]
          cases f with
          | zero => exact hid rfl
          | succ f => unfold eachL; rw [if_neg (by simp)]; exact hid rfl
        go_wp2_with fail
        refine (leads_any ⟨l1, 0, l3⟩ _).mono ?_
        rintro e_ w2 ⟨rfl, k2⟩
        have H2 := hid (HY.out.ea.new E k2).1
        clear HY k2
        unfold Lk.leads
        go_wp2_with fail
        go_ret
        rw [HEQ.out]
        exact ⟨rfl, H2.out⟩
      · have hlb : (l2 != 0) = true := by simpa using hl2
        obtain ⟨⟨⟨⟨m1, m2, m3⟩, e'⟩, n', s2⟩, eq2⟩ : ∃ r, s'.fol n (uw (uw (l2 - 1) + 2)) = r := ⟨_, rfl⟩
        have HOK : Hid (FolOk s' n ((⟨m1, m2, m3⟩, e'), n', s2)) := by
          have q := fol_ok HY.out.ea.hs.wd.ok n (uw_isW (uw (l2 - 1) + 2))
          rw [eq2] at q
          exact hid q
        have HF : Hid (65536 < f + n ∧ out.length + 1 ≤ n) := hid (HY.out.fu ⟨rfl, hl2⟩)
        have HNX : Hid (s.each at_ = eachL (f - 1) (out ++ [l3]) ⟨m1, m2, m3⟩ e' n' s2) := by
          have hn := HY.out.nl
          obtain ⟨f', rfl⟩ : ∃ f', f = f' + 1 := ⟨f - 1, by have := HF.out; omega⟩
          rw [HY.out.eq]
          conv => arg 1; lhs; unfold eachL
          rw [if_pos ⟨rfl, hl2⟩]
          unfold Lk.nd
          dsimp only
          rw [eq2]
          exact hid rfl
        have HE : Hid (_ = _) := eq2
        have HOL : Hid (out.length ≤ 65536) := hid (by have := HF.out; have := HY.out.nl; omega)
        have HMS : Hid (2 * measN wr w.heap.size + flagE (.int .i64 0) wr w1.heap.size = 2 * (65536 - (n : Int)).toNat + 1) := by
          rw [measN_of HY.out.pw.lo.at_, flagE_of HY.out.ql.lo.at_, if_pos ⟨rfl, hl2⟩]
          exact hid rfl
        clear eq2
        go_wp2_with fail
        refine (leads_any ⟨l1, l2, l3⟩ _).mono ?_
        rintro e_ w2 ⟨rfl, k2⟩
        have H2 : Hid (Ea J Fp w0 b g c w2 s' out ∧ Lp Fp w2 b g w.heap.size (wkO b n) ∧ Lp Fp w2 b g w1.heap.size (lkO ⟨l1, l2, l3⟩)) := by
          have hy := HY.out
          have q := hy.ea.new E k2
          have kq := Kq.of (g := g) hy.ea.hs.wd.ltb k2 (fun _ _ f => f)
          exact hid ⟨q.1, hy.pw.on kq q.2 (fun f => f), hy.ql.on kq q.2 (fun f => f)⟩
        clear k2 p0 p1 p2
        have hq := H2.out.2.2.lo.at_
        have p0 := lk_c0 hq
        have p1 := lk_c1 hq
        have p2 := lk_c2 hq
        dsimp only at p0 p1 p2
        clear hq
        unfold Lk.leads
        simp only [hlb]
        go_wp2_with fail
        refine (E.call _ out l3 HOL.out H2.out.1.j).mono ?_
        rintro e_ w3 ⟨rfl, j3, k3, f3⟩
        have H3 : Hid (Ea J Fp w0 b g c w3 s' (out ++ [l3]) ∧ Lp Fp w3 b g w.heap.size (wkO b n) ∧ Lp Fp w3 b g w1.heap.size (lkO ⟨l1, l2, l3⟩)) := hid ⟨H2.out.1.call j3 k3 f3, H2.out.2.1.call H2.out.1 k3 f3, H2.out.2.2.call H2.out.1 k3 f3⟩
        clear H2 j3 k3 f3 p0 p1 p2
        have hq := H3.out.2.2.lo.at_
        have p0 := lk_c0 hq
        have p1 := lk_c1 hq
        have p2 := lk_c2 hq
        dsimp only at p0 p1 p2
        clear hq
        go_wp2_with fail
        refine (node_any ⟨l1, l2, l3⟩ _).mono ?_
        rintro e_ w4 ⟨rfl, k4⟩
        have H4 : Hid (Ea J Fp w0 b g c w4 s' (out ++ [l3]) ∧ Lp Fp w4 b g w.heap.size (wkO b n) ∧ Lp Fp w4 b g w1.heap.size (lkO ⟨l1, l2, l3⟩)) := by
          have hy := H3.out
          have q := hy.1.new E k4
          have kq := Kq.of (g := g) hy.1.hs.wd.ltb k4 (fun _ _ f => f)
          exact hid ⟨q.1, hy.2.1.on kq q.2 (fun f => f), hy.2.2.on kq q.2 (fun f => f)⟩
        clear H3 k4 p0 p1 p2
        unfold Lk.nd
        go_wp2_with fail
        refine (follow_r HE HY.out.nl (uw_isW _) (HY.out.rm.le (by have := HF.out; have := HY.out.nl; omega)) H4.out.1.hs.wd H4.out.2.1.lo).mono ?_
        rintro e_ w5 ⟨rfl, h5⟩
        have H5 : Hid (Ea J Fp w0 b g c w5 s2 (out ++ [l3]) ∧ Lp Fp w5 b g w.heap.size (wkO b n') ∧ Lp Fp w5 b g w1.heap.size (lkO ⟨l1, l2, l3⟩)) := by
          have hy := H4.out
          have hw := HW0.out
          have q := hy.1.acc E h5.k h5.wd (fun i e => by subst e; exact ⟨hw, hy.2.1.nf⟩)
          exact hid ⟨q.1, ⟨h5.pw, fun e => hy.2.1.nf (q.2 _ e)⟩, hy.2.2.on h5.k q.2 (fun e => hwn e.symm)⟩
        clear H4 h5 HE
        have hq := H5.out.2.2.lo.at_
        have p0 := lk_c0 hq
        have p1 := lk_c1 hq
        have p2 := lk_c2 hq
        have pf0 := lk_fr hq 0
        have pf1 := lk_fr hq 1
        have pf2 := lk_fr hq 2
        dsimp only at p0 p1 p2
        clear hq
        unfold Lk.v
        go_wp2_with fail
        have H6 : Hid (Er J Fp w0 w b g c w1.heap.size s at_ (((w5.setCell ⟨w1.heap.size, 0, none⟩ (.int .u64 m1)).setCell ⟨w1.heap.size, 1, none⟩ (.int .u64 m2)).setCell ⟨w1.heap.size, 2, none⟩ (.int .u64 m3)) (f - 1) (out ++ [l3]) ⟨m1, m2, m3⟩ e' n' s2) := by
          have hy := H5.out
          have l6 := hy.2.2.lo.lk3 m1 m2 m3
          have ks : Keeps (fun k => k = w1.heap.size) w5 (((w5.setCell ⟨w1.heap.size, 0, none⟩ (.int .u64 m1)).setCell ⟨w1.heap.size, 1, none⟩ (.int .u64 m2)).setCell ⟨w1.heap.size, 2, none⟩ (.int .u64 m3)) := (((Keeps.refl (fun k => k = w1.heap.size) w5).setCell (p := ⟨w1.heap.size, 0, none⟩) (.inr rfl) _).setCell (p := ⟨w1.heap.size, 1, none⟩) (.inr rfl) _).setCell (p := ⟨w1.heap.size, 2, none⟩) (.inr rfl) _
          have hn : ∀ i, own w5 b g i → ¬ i = w1.heap.size := fun i hi e => hy.2.2.lo.no (e ▸ hi)
          have kq := Kq.of (g := g) hy.1.hs.wd.ltb ks hn
          have q := hy.1.acc E kq (hy.1.hs.wd.kept ks hn) (fun i e => by subst e; exact ⟨HW1.out, hy.2.2.nf⟩)
          have hok := HOK.out
          have hge : n ≤ n' := hok.ge
          have hle : n' ≤ 65536 := hok.le HY.out.nl
          have hff := HF.out
          have hlen : s2.L.length ≤ s'.L.length + 2 := hok.len
          have hrm := HY.out.rm
          refine hid ⟨q.1, hy.2.1.on kq q.2 hwn, ⟨l6, fun e => hy.2.2.nf (q.2 _ e)⟩, HNX.out, fun hfl => ?_, by simp; omega, hle, ?_⟩
          · have hup : n' = n + 1 := hok.up hfl.1 hfl.2
            simp
            omega
          · unfold Rm at hrm ⊢
            have := HY.out.nl
            omega
        have HM6 : Hid (2 * measN (((w5.setCell ⟨w1.heap.size, 0, none⟩ (.int .u64 m1)).setCell ⟨w1.heap.size, 1, none⟩ (.int .u64 m2)).setCell ⟨w1.heap.size, 2, none⟩ (.int .u64 m3)) w.heap.size + flagE (.int .i64 e') (((w5.setCell ⟨w1.heap.size, 0, none⟩ (.int .u64 m1)).setCell ⟨w1.heap.size, 1, none⟩ (.int .u64 m2)).setCell ⟨w1.heap.size, 2, none⟩ (.int .u64 m3)) w1.heap.size < 2 * (65536 - (n : Int)).toNat + 1) := by
          rw [measN_of H6.out.pw.lo.at_, flagE_of H6.out.ql.lo.at_]
          have hok := HOK.out
          have hge : n ≤ n' := hok.ge
          have hle : n' ≤ 65536 := hok.le HY.out.nl
          by_cases hfl : e' = 0 ∧ m2 ≠ 0
          · have hup : n' = n + 1 := hok.up hfl.1 hfl.2
            rw [if_pos hfl]
            refine hid ?_
            omega
          · rw [if_neg hfl]
            refine hid ?_
            omega
        clear HY H5 p0 p1 p2 pf0 pf1 pf2
        go_roundw
        case rel => exact ⟨f - 1, out ++ [l3], _, e', n', s2, rfl, H6⟩
        case measure => rw [HMS.out]; exact HM6.out
    · have HEQ : Hid (s.each at_ = ((out, e), s')) := by
        rw [HY.out.eq]
        cases f with
        | zero => exact hid rfl
        | succ f => unfold eachL; rw [if_neg (fun q => he q.1)]; exact hid rfl
      go_wp2_with fail
      go_ret
      rw [HEQ.out]
      exact ⟨rfl, HY.out.ea⟩
end Go.Proofs.Ytifmpiiaebnbiaa
