/-
  No statement of the seat is proved here. (Several texts in one: SkQ, SkR.)
-/
import Derived.Test.YtjgibkofenkehaaSkJ

/- The walk of each (layer 22). No statement of the seat is proved here. -/
namespace Go.Proofs.Ytjgibkofenkehaa
open Go.RowKit

/-- A closure that is told words: J holds of what it was told so far, Fp are the blocks that it owns. -/
structure Tel (fn kq : Nat) (J : List Int → World → Prop) (Fp : World → Nat → Prop) : Prop where
  ent : ∀ (args : Array Value) (X : World), (callFunc fn args).run Try.prog X = .ok (.enter fn args) X
  call : ∀ (X : World) (out : List Int) (k : Int), out.length ≤ 65536 → J out X → Calls Try.prog fn #[.int .u64 k, .pointer (some ⟨kq, 0, none⟩)] X fun e X' => e = .returned (.tuple #[]) ∧ J (out ++ [k]) X' ∧ Keeps (Fp X) X X' ∧ ∀ i, Fp X' i → Fp X i ∨ X.heap.size ≤ i
  keep : ∀ {S : Nat → Prop} {X X' : World} {out : List Int}, J out X → Keeps S X X' → (∀ k, S k → ¬ Fp X k) → J out X' ∧ ∀ k, Fp X' k → Fp X k
  lt : ∀ {X : World} {out : List Int} {k : Nat}, J out X → Fp X k → k < X.heap.size
/-- What stands while words are told: from the world w on; the walk's block pw, the link's block q. -/
structure Ea (J : List Int → World → Prop) (Fp : World → Nat → Prop) (w : World) (b g c : Nat) (X : World) (s : Wd) (out : List Int) : Prop where
  hs : Hs 27 w b g c X s
  j : J out X
  fp : ∀ k, Fp X k → w.heap.size ≤ k ∧ ¬ own X b g k
section
variable {fn kq : Nat} {J : List Int → World → Prop} {Fp : World → Nat → Prop} {w X X' : World} {b g c pw q n : Nat} {s s' : Wd} {out : List Int} {o : Obj}
theorem Ea.acc (E : Tel fn kq J Fp) (h : Ea J Fp w b g c X s out) {S : Nat → Prop} (k : Kq S b g X X') (wd : WdAt 27 X' b g c s') (hS : ∀ i, S i → w.heap.size ≤ i ∧ ¬ Fp X i) : Ea J Fp w b g c X' s' out ∧ ∀ i, Fp X' i → Fp X i := by
  obtain ⟨hj, hf⟩ := E.keep h.j k.k (fun i e f => by
    rcases e with e | e
    · exact (h.fp i f).2 e
    · exact (hS i e).2 f)
  refine ⟨⟨h.hs.acc k wd (fun i e => (hS i e).1), hj, fun i e => ⟨(h.fp i (hf i e)).1, fun eo => ?_⟩⟩, hf⟩
  rcases k.f i eo with r | r
  · exact (h.fp i (hf i e)).2 r
  · have := E.lt h.j (hf i e); omega
theorem Ea.new (E : Tel fn kq J Fp) (h : Ea J Fp w b g c X s out) (k : Keeps (fun _ => False) X X') : Ea J Fp w b g c X' s out ∧ ∀ i, Fp X' i → Fp X i :=
  h.acc E ((Kq.of h.hs.wd.ltb k (fun _ _ f => f))) (h.hs.wd.kept k (fun _ _ f => f)) (fun _ f => f.elim)
theorem Ea.call (h : Ea J Fp w b g c X s out) {out' : List Int} (hj : J out' X') (k : Keeps (Fp X) X X') (hf : ∀ i, Fp X' i → Fp X i ∨ X.heap.size ≤ i) : Ea J Fp w b g c X' s out' := by
  have ho := own_kept h.hs.wd.ltb k (fun i hi f => (h.fp i f).2 hi)
  refine ⟨h.hs.step k (fun i f => h.fp i f), hj, fun i e => ?_⟩
  rcases hf i e with r | r
  · exact ⟨(h.fp i r).1, fun eo => (h.fp i r).2 ((ho i).1 eo)⟩
  · refine ⟨Nat.le_trans h.hs.k.k.size r, fun eo => ?_⟩
    have := h.hs.wd.lto ((ho i).1 eo)
    omega
/-- A block that is neither the tx's nor the closure's. -/
structure Lp (Fp : World → Nat → Prop) (X : World) (b g q : Nat) (o : Obj) : Prop where
  lo : Lo X b g q o
  nf : ¬ Fp X q
theorem Lp.on (h : Lp Fp X b g q o) {S : Nat → Prop} (k : Kq S b g X X') (hf : ∀ i, Fp X' i → Fp X i) (hq : ¬ S q) : Lp Fp X' b g q o := ⟨h.lo.kq k hq, fun e => h.nf (hf q e)⟩
theorem Lp.call (h : Lp Fp X b g q o) (he : Ea J Fp w b g c X s out) (k : Keeps (Fp X) X X') (hf : ∀ i, Fp X' i → Fp X i ∨ X.heap.size ≤ i) : Lp Fp X' b g q o := by
  refine ⟨h.lo.keeps he.hs.wd.ltb k (fun i hi f => (he.fp i f).2 hi) h.nf, fun e => ?_⟩
  rcases hf q e with r | r
  · exact h.nf r
  · have := h.lo.lt; omega
end
/-- What stands at a round's beginning. -/
structure Er (J : List Int → World → Prop) (Fp : World → Nat → Prop) (w0 w : World) (b g c q : Nat) (s : Wd) (at_ : Int) (X : World) (f : Nat) (out : List Int) (l : Lk) (e : Int) (n : Nat) (s' : Wd) : Prop where
  ea : Ea J Fp w0 b g c X s' out
  pw : Lp Fp X b g w.heap.size (wkO b n)
  ql : Lp Fp X b g q (lkO l)
  eq : s.each at_ = eachL f out l e n s'
  fu : e = 0 ∧ l.t ≠ 0 → 65536 < f + n ∧ out.length + 1 ≤ n
  le : out.length ≤ n
  nl : n ≤ 65536
  rm : Rm s' (2 * f)
def flagE (er : Value) (w : World) (q : Nat) : Nat := match er with
  | .int _ e => (match w.heap[q]? with
    | some (.cells cs _ _) => (match cs[1]? with
      | some (Value.int _ t) => if e = 0 ∧ t ≠ 0 then 1 else 0
      | _ => 0)
    | _ => 0)
  | _ => 0
theorem flagE_of {w : World} {q : Nat} {l : Lk} {e : Int} (h : w.heap[q]? = some (lkO l)) : flagE (.int .i64 e) w q = if e = 0 ∧ l.t ≠ 0 then 1 else 0 := by
  unfold flagE
  rw [h]
  rfl
set_option maxRecDepth 100000 in
set_option maxHeartbeats 4000000 in
theorem each_any {fn kq : Nat} {J : List Int → World → Prop} {Fp : World → Nat → Prop} (E : Tel fn kq J Fp) (b g c : Nat) (s : Wd) (at_ : Int) (hat : isW at_) (rms : Rm s 131100) (w0 w : World) (h : Ea J Fp w0 b g c w s []) :
    Calls Try.prog 46 #[.iface 24 (.pointer (some ⟨b, 0, none⟩)), .int .u64 at_, .func (.func fn) #[] #[.pointer (some ⟨kq, 0, none⟩)]] w fun e w' => e = .returned (.int .i64 (s.each at_).1.2) ∧ Ea J Fp w0 b g c w' (s.each at_).2 (s.each at_).1.1 := by
  have hent := E.ent
  have oks := h.hs.wd.ok
  have HW0 : Hid (w0.heap.size ≤ w.heap.size) := hid h.hs.k.k.size
  have HST : Hid (Ea J Fp w0 b g c (w.alloc (wkO b 0)) s [] ∧ Lp Fp (w.alloc (wkO b 0)) b g w.heap.size (wkO b 0)) := by
    have q := h.new E (keeps_new w (wkO b 0))
    exact hid ⟨q.1, Lo.new h.hs.wd _, fun e => by have := E.lt h.j (q.2 _ e); omega⟩
  clear h
  obtain ⟨⟨⟨⟨l1, l2, l3⟩, e⟩, n, s1⟩, eq1⟩ : ∃ r, s.fol 0 at_ = r := ⟨_, rfl⟩
  have HOK : Hid (FolOk s 0 ((⟨l1, l2, l3⟩, e), n, s1)) := by
    have q := fol_ok oks 0 hat
    rw [eq1] at q
    exact hid q
  have HEQ : Hid (s.each at_ = eachL FU [] ⟨l1, l2, l3⟩ e n s1) := by
    unfold Wd.each
    rw [eq1]
    exact hid rfl
  have HE : Hid (_ = _) := eq1
  clear eq1
  go_enter Try.func46, Try.ntmps46
  go_wp2_with fail
  refine (follow_r HE (by omega) hat (rms.le (by omega)) HST.out.1.hs.wd HST.out.2.lo).mono ?_
  rintro e_ w1 ⟨rfl, h1⟩
  have H1 : Hid (Ea J Fp w0 b g c w1 s1 [] ∧ Lp Fp w1 b g w.heap.size (wkO b n)) := by
    have hw := HW0.out
    have q := HST.out.1.acc E h1.k h1.wd (fun i e => by subst e; exact ⟨hw, HST.out.2.nf⟩)
    exact hid ⟨q.1, h1.pw, fun e => HST.out.2.nf (q.2 _ e)⟩
  clear HST h1 HE
  have HR : Hid (Er J Fp w0 w b g c w1.heap.size s at_ (w1.alloc (lkO ⟨l1, l2, l3⟩)) FU [] ⟨l1, l2, l3⟩ e n s1) := by
    have kn := keeps_new w1 (lkO ⟨l1, l2, l3⟩)
    have h1 := H1.out
    have q := h1.1.new E kn
    have hok := HOK.out
    have hn1 : n ≤ 65536 := hok.le (by omega)
    have hlen : s1.L.length ≤ s.L.length + 2 := hok.len
    refine hid ⟨q.1, h1.2.on (Kq.of h1.1.hs.wd.ltb kn (fun _ _ f => f)) q.2 (fun f => f), ⟨Lo.new h1.1.hs.wd _, fun e => ?_⟩, HEQ.out, fun hf => ?_, by simp, hn1, ?_⟩
    · have := E.lt h1.1.j (q.2 _ e); omega
    · have := hok.up hf.1 hf.2
      have e1 : n = 0 + 1 := this
      unfold FU
      simp
      omega
    · unfold Rm FU at *
      omega
  have hwn : w.heap.size ≠ w1.heap.size := Nat.ne_of_lt H1.out.2.lo.lt
  have HW1 : Hid (w0.heap.size ≤ w1.heap.size) := hid H1.out.1.hs.k.k.size
  clear H1 HOK HEQ
  unfold Lk.v
  go_wp2_with fail
  go_loopw [9] (fun er wr => ∃ (f : Nat) (out : List Int) (l : Lk) (e : Int) (n : Nat) (s' : Wd), er = .int .i64 e ∧ Hid (Er J Fp w0 w b g c w1.heap.size s at_ wr f out l e n s')) (fun er wr => 2 * measN wr w.heap.size + flagE er wr w1.heap.size)
  case atStart => exact ⟨FU, [], _, e, n, s1, rfl, HR⟩
  case round =>
    obtain ⟨f, out, ⟨l1, l2, l3⟩, e, n, s', rfl, HY⟩ := hrel
    clear HR
    have hq := HY.out.ql.lo.at_
    have p0 := lk_c0 hq
    have p1 := lk_c1 hq
    have p2 := lk_c2 hq
    dsimp only at p0 p1 p2
    clear hq
    by_cases he : e = 0
    · subst he
      by_cases hl2 : l2 = 0
      · subst hl2
        have HEQ : Hid (s.each at_ = ((out, 0), s')) := by
          rw [HY.out.eq]
          cases f with
          | zero => exact hid rfl
          | succ f => unfold eachL; rw [if_neg (by simp)]; exact hid rfl
        go_wp2_with fail
        refine (leads_any ⟨l1, 0, l3⟩ _).mono ?_
        rintro e_ w2 ⟨rfl, k2⟩
        have H2 := hid (HY.out.ea.new E k2).1
        clear HY k2
        unfold Lk.leads
        go_wp2_with fail
        go_ret
        rw [HEQ.out]
        exact ⟨rfl, H2.out⟩
      · have hlb : (l2 != 0) = true := by simpa using hl2
        obtain ⟨⟨⟨⟨m1, m2, m3⟩, e'⟩, n', s2⟩, eq2⟩ : ∃ r, s'.fol n (uw (uw (l2 - 1) + 2)) = r := ⟨_, rfl⟩
        have HOK : Hid (FolOk s' n ((⟨m1, m2, m3⟩, e'), n', s2)) := by
          have q := fol_ok HY.out.ea.hs.wd.ok n (uw_isW (uw (l2 - 1) + 2))
          rw [eq2] at q
          exact hid q
        have HF : Hid (65536 < f + n ∧ out.length + 1 ≤ n) := hid (HY.out.fu ⟨rfl, hl2⟩)
        have HNX : Hid (s.each at_ = eachL (f - 1) (out ++ [l3]) ⟨m1, m2, m3⟩ e' n' s2) := by
          have hn := HY.out.nl
          obtain ⟨f', rfl⟩ : ∃ f', f = f' + 1 := ⟨f - 1, by have := HF.out; omega⟩
          rw [HY.out.eq]
          conv => arg 1; lhs; unfold eachL
          rw [if_pos ⟨rfl, hl2⟩]
          unfold Lk.nd
          dsimp only
          rw [eq2]
          exact hid rfl
        have HE : Hid (_ = _) := eq2
        have HOL : Hid (out.length ≤ 65536) := hid (by have := HF.out; have := HY.out.nl; omega)
        have HMS : Hid (2 * measN wr w.heap.size + flagE (.int .i64 0) wr w1.heap.size = 2 * (65536 - (n : Int)).toNat + 1) := by
          rw [measN_of HY.out.pw.lo.at_, flagE_of HY.out.ql.lo.at_, if_pos ⟨rfl, hl2⟩]
          exact hid rfl
        clear eq2
        go_wp2_with fail
        refine (leads_any ⟨l1, l2, l3⟩ _).mono ?_
        rintro e_ w2 ⟨rfl, k2⟩
        have H2 : Hid (Ea J Fp w0 b g c w2 s' out ∧ Lp Fp w2 b g w.heap.size (wkO b n) ∧ Lp Fp w2 b g w1.heap.size (lkO ⟨l1, l2, l3⟩)) := by
          have hy := HY.out
          have q := hy.ea.new E k2
          have kq := Kq.of (g := g) hy.ea.hs.wd.ltb k2 (fun _ _ f => f)
          exact hid ⟨q.1, hy.pw.on kq q.2 (fun f => f), hy.ql.on kq q.2 (fun f => f)⟩
        clear k2 p0 p1 p2
        have hq := H2.out.2.2.lo.at_
        have p0 := lk_c0 hq
        have p1 := lk_c1 hq
        have p2 := lk_c2 hq
        dsimp only at p0 p1 p2
        clear hq
        unfold Lk.leads
        simp only [hlb]
        go_wp2_with fail
        refine (E.call _ out l3 HOL.out H2.out.1.j).mono ?_
        rintro e_ w3 ⟨rfl, j3, k3, f3⟩
        have H3 : Hid (Ea J Fp w0 b g c w3 s' (out ++ [l3]) ∧ Lp Fp w3 b g w.heap.size (wkO b n) ∧ Lp Fp w3 b g w1.heap.size (lkO ⟨l1, l2, l3⟩)) := hid ⟨H2.out.1.call j3 k3 f3, H2.out.2.1.call H2.out.1 k3 f3, H2.out.2.2.call H2.out.1 k3 f3⟩
        clear H2 j3 k3 f3 p0 p1 p2
        have hq := H3.out.2.2.lo.at_
        have p0 := lk_c0 hq
        have p1 := lk_c1 hq
        have p2 := lk_c2 hq
        dsimp only at p0 p1 p2
        clear hq
        go_wp2_with fail
        refine (node_any ⟨l1, l2, l3⟩ _).mono ?_
        rintro e_ w4 ⟨rfl, k4⟩
        have H4 : Hid (Ea J Fp w0 b g c w4 s' (out ++ [l3]) ∧ Lp Fp w4 b g w.heap.size (wkO b n) ∧ Lp Fp w4 b g w1.heap.size (lkO ⟨l1, l2, l3⟩)) := by
          have hy := H3.out
          have q := hy.1.new E k4
          have kq := Kq.of (g := g) hy.1.hs.wd.ltb k4 (fun _ _ f => f)
          exact hid ⟨q.1, hy.2.1.on kq q.2 (fun f => f), hy.2.2.on kq q.2 (fun f => f)⟩
        clear H3 k4 p0 p1 p2
        unfold Lk.nd
        go_wp2_with fail
        refine (follow_r HE HY.out.nl (uw_isW _) (HY.out.rm.le (by have := HF.out; have := HY.out.nl; omega)) H4.out.1.hs.wd H4.out.2.1.lo).mono ?_
        rintro e_ w5 ⟨rfl, h5⟩
        have H5 : Hid (Ea J Fp w0 b g c w5 s2 (out ++ [l3]) ∧ Lp Fp w5 b g w.heap.size (wkO b n') ∧ Lp Fp w5 b g w1.heap.size (lkO ⟨l1, l2, l3⟩)) := by
          have hy := H4.out
          have hw := HW0.out
          have q := hy.1.acc E h5.k h5.wd (fun i e => by subst e; exact ⟨hw, hy.2.1.nf⟩)
          exact hid ⟨q.1, ⟨h5.pw, fun e => hy.2.1.nf (q.2 _ e)⟩, hy.2.2.on h5.k q.2 (fun e => hwn e.symm)⟩
        clear H4 h5 HE
        have hq := H5.out.2.2.lo.at_
        have p0 := lk_c0 hq
        have p1 := lk_c1 hq
        have p2 := lk_c2 hq
        have pf0 := lk_fr hq 0
        have pf1 := lk_fr hq 1
        have pf2 := lk_fr hq 2
        dsimp only at p0 p1 p2
        clear hq
        unfold Lk.v
        go_wp2_with fail
        have H6 : Hid (Er J Fp w0 w b g c w1.heap.size s at_ (((w5.setCell ⟨w1.heap.size, 0, none⟩ (.int .u64 m1)).setCell ⟨w1.heap.size, 1, none⟩ (.int .u64 m2)).setCell ⟨w1.heap.size, 2, none⟩ (.int .u64 m3)) (f - 1) (out ++ [l3]) ⟨m1, m2, m3⟩ e' n' s2) := by
          have hy := H5.out
          have l6 := hy.2.2.lo.lk3 m1 m2 m3
          have ks : Keeps (fun k => k = w1.heap.size) w5 (((w5.setCell ⟨w1.heap.size, 0, none⟩ (.int .u64 m1)).setCell ⟨w1.heap.size, 1, none⟩ (.int .u64 m2)).setCell ⟨w1.heap.size, 2, none⟩ (.int .u64 m3)) := (((Keeps.refl (fun k => k = w1.heap.size) w5).setCell (p := ⟨w1.heap.size, 0, none⟩) (.inr rfl) _).setCell (p := ⟨w1.heap.size, 1, none⟩) (.inr rfl) _).setCell (p := ⟨w1.heap.size, 2, none⟩) (.inr rfl) _
          have hn : ∀ i, own w5 b g i → ¬ i = w1.heap.size := fun i hi e => hy.2.2.lo.no (e ▸ hi)
          have kq := Kq.of (g := g) hy.1.hs.wd.ltb ks hn
          have q := hy.1.acc E kq (hy.1.hs.wd.kept ks hn) (fun i e => by subst e; exact ⟨HW1.out, hy.2.2.nf⟩)
          have hok := HOK.out
          have hge : n ≤ n' := hok.ge
          have hle : n' ≤ 65536 := hok.le HY.out.nl
          have hff := HF.out
          have hlen : s2.L.length ≤ s'.L.length + 2 := hok.len
          have hrm := HY.out.rm
          refine hid ⟨q.1, hy.2.1.on kq q.2 hwn, ⟨l6, fun e => hy.2.2.nf (q.2 _ e)⟩, HNX.out, fun hfl => ?_, by simp; omega, hle, ?_⟩
          · have hup : n' = n + 1 := hok.up hfl.1 hfl.2
            simp
            omega
          · unfold Rm at hrm ⊢
            have := HY.out.nl
            omega
        have HM6 : Hid (2 * measN (((w5.setCell ⟨w1.heap.size, 0, none⟩ (.int .u64 m1)).setCell ⟨w1.heap.size, 1, none⟩ (.int .u64 m2)).setCell ⟨w1.heap.size, 2, none⟩ (.int .u64 m3)) w.heap.size + flagE (.int .i64 e') (((w5.setCell ⟨w1.heap.size, 0, none⟩ (.int .u64 m1)).setCell ⟨w1.heap.size, 1, none⟩ (.int .u64 m2)).setCell ⟨w1.heap.size, 2, none⟩ (.int .u64 m3)) w1.heap.size < 2 * (65536 - (n : Int)).toNat + 1) := by
          rw [measN_of H6.out.pw.lo.at_, flagE_of H6.out.ql.lo.at_]
          have hok := HOK.out
          have hge : n ≤ n' := hok.ge
          have hle : n' ≤ 65536 := hok.le HY.out.nl
          by_cases hfl : e' = 0 ∧ m2 ≠ 0
          · have hup : n' = n + 1 := hok.up hfl.1 hfl.2
            rw [if_pos hfl]
            refine hid ?_
            omega
          · rw [if_neg hfl]
            refine hid ?_
            omega
        clear HY H5 p0 p1 p2 pf0 pf1 pf2
        go_roundw
        case rel => exact ⟨f - 1, out ++ [l3], _, e', n', s2, rfl, H6⟩
        case measure => rw [HMS.out]; exact HM6.out
    · have HEQ : Hid (s.each at_ = ((out, e), s')) := by
        rw [HY.out.eq]
        cases f with
        | zero => exact hid rfl
        | succ f => unfold eachL; rw [if_neg (fun q => he q.1)]; exact hid rfl
      go_wp2_with fail
      go_ret
      rw [HEQ.out]
      exact ⟨rfl, HY.out.ea⟩
end Go.Proofs.Ytjgibkofenkehaa


/- The walks of Keys and Len (layer 22). No statement of the seat is proved here. -/
namespace Go.Proofs.Ytjgibkofenkehaa
open Go.RowKit

/-- A count in a cell. -/
def cntO (n : Nat) : Obj := .cells #[.int .i64 (n : Int)] 3 (0, 0)
set_option maxHeartbeats 400000 in
theorem len1_any (X : World) (kq n : Nat) (k : Int) (hn : n ≤ 65536) (h : X.heap[kq]? = some (cntO n)) : Calls Try.prog 48 #[.int .u64 k, .pointer (some ⟨kq, 0, none⟩)] X fun e X' => e = .returned (.tuple #[]) ∧ X' = X.setCell ⟨kq, 0, none⟩ (.int .i64 ((n : Int) + 1)) := by
  have c0 : X.cell? ⟨kq, 0, none⟩ = some (.int .i64 (n : Int)) := by rw [cell_of_block h]; rfl
  have f0 : X.frozen? ⟨kq, 0, none⟩ = false := frozen_of_block h 0
  have hwk : IntKind.i64.wrap ((n : Int) + 1) = (n : Int) + 1 := by rw [IntKind.wrap_i64]; omega
  clear h
  go_enter Try.func48, Try.ntmps48
  go_wp2_with fail
  first | refine bodyPost_ret (results_none rfl _ _ _) rfl ?_ | refine bodyPost_end (results_none rfl _ _ _) rfl ?_
  exact ⟨rfl, rfl⟩
theorem tel_len (kq : Nat) : Tel 48 kq (fun out X => X.heap[kq]? = some (cntO out.length)) (fun _ k => k = kq) where
  ent := enters (by kernel_rfl)
  call X out k hl h := by
    refine (len1_any X kq out.length k hl h).mono ?_
    rintro e X' ⟨rfl, rfl⟩
    refine ⟨rfl, ?_, (Keeps.refl (fun i => i = kq) X).setCell (p := ⟨kq, 0, none⟩) (.inr rfl) _, fun i e => .inl e⟩
    rw [block_set h 0 _]
    simp [cntO]
  keep h k hs := ⟨(k.block kq (lt_of_block h) (fun e => hs _ e rfl)).trans h, fun _ e => e⟩
  lt h e := by rw [e]; exact lt_of_block h
/-- A list in a cell: its row is the call's own. -/
def KsAt (B kq : Nat) (out : List Int) (X : World) : Prop := ∃ v, X.heap[kq]? = some (.cells #[v] 22 (0, 0)) ∧ Wr X B v out ∧ v.ownBlock ≠ some kq
def KsF (kq : Nat) (X : World) (k : Nat) : Prop := k = kq ∨ ∃ v t fr, X.heap[kq]? = some (.cells #[v] t fr) ∧ v.ownBlock = some k
theorem ks_push {B kq : Nat} {out : List Int} {X : World} (hb : B ≤ X.heap.size) (hl : out.length ≤ 65536) (h : KsAt B kq out X) (k : Int) :
    ∃ v v' X', X.cell? ⟨kq, 0, none⟩ = some v ∧ X'.cell? ⟨kq, 0, none⟩ = some v ∧ X'.frozen? ⟨kq, 0, none⟩ = false ∧ (Builtin.append_ #[22, 22] 22 #[v, .slice (some ⟨X.heap.size, 0, none⟩) 1 1]).run Try.prog (X.alloc (.cells #[.int .u64 k] 32)) = .ok v' X' ∧ (∃ a' c', v' = .slice a' (out.length + 1) c') ∧
      KsAt B kq (out ++ [k]) (X'.setCell ⟨kq, 0, none⟩ v') ∧ Keeps (KsF kq X) X (X'.setCell ⟨kq, 0, none⟩ v') ∧ ∀ i, KsF kq (X'.setCell ⟨kq, 0, none⟩ v') i → KsF kq X i ∨ X.heap.size ≤ i := by
  obtain ⟨v, q1, q2, q3⟩ := h
  have k0 : Keeps (fun _ => False) X (X.alloc (.cells #[.int .u64 k] 32)) := keeps_new X _
  have b0 := alloc_block X (.cells #[.int .u64 k] 32)
  obtain ⟨v', X', r1, r2, r3, r4⟩ := own_push (P := Try.prog) (X.alloc (.cells #[.int .u64 k] 32)) B 22 22 32 (.int .u64 0) 1 8 Try.underlying22 info_word rfl (by decide) v out.length (wordsV out) (own_keeps q2 k0 (fun _ _ f => f)) ⟨X.heap.size, 0, none⟩ 1 1 [.int .u64 k] rfl (fun j u hj => by
    rw [addr_add, Nat.zero_add, cell_of_block b0]
    simpa using hj) (by simp [Value.oneCell']) (by omega) (by decide) (by simp; omega)
  have hkl := lt_of_block q1
  have kb : X'.heap[kq]? = X.heap[kq]? := (r3.block kq (by simp; omega) (fun e => q3 e.symm)).trans (k0.block kq hkl (fun f => f))
  have hnb : v'.ownBlock ≠ some kq := by
    rcases r4 with e | e
    · rw [e]; exact q3
    · intro e2
      have := e kq e2
      simp at this
      omega
  have hbox : (X'.setCell ⟨kq, 0, none⟩ v').heap[kq]? = some (.cells #[v'] 22 (0, 0)) := by rw [block_set (kb.trans q1) 0 v']; rfl
  refine ⟨v, v', X', by rw [cell_of_block q1]; rfl, by rw [cell_of_block (kb.trans q1)]; rfl, frozen_of_block (kb.trans q1) 0, r1, ?_, ⟨v', hbox, ?_, hnb⟩, ?_, fun i hi => ?_⟩
  · rcases r2.2 with ⟨_, e⟩ | ⟨g', cap, cur, e, _⟩
    · omega
    · exact ⟨_, _, e⟩
  · have r2' : X'.ownsRow B 32 1 v' (out ++ [k]).length (wordsV (out ++ [k])) := by
      rw [wordsV_append, List.length_append]
      exact r2
    exact own_keep r2' (fun j hj => Below.heap_setCell _ _ _ _ (fun e => by
      have e' : j = kq := e
      subst e'
      exact hnb hj))
  · have kA : Keeps (KsF kq X) X X' := ⟨r3.os.trans k0.os, r3.tape.trans k0.tape, r3.output.trans k0.output, Nat.le_trans k0.size r3.size, fun i hi hs => (r3.block i (by simp; omega) (fun e => hs (.inr ⟨_, _, _, q1, e.symm⟩))).trans (k0.block i hi (fun f => f))⟩
    exact kA.setCell (p := ⟨kq, 0, none⟩) (.inr (.inl rfl)) v'
  · rcases hi with e | ⟨u, t, fr, e1, e2⟩
    · exact .inl (.inl e)
    · rw [hbox] at e1
      simp at e1
      obtain ⟨rfl, _⟩ := e1
      rcases r4 with e | e
      · exact .inl (.inr ⟨_, _, _, q1, by rw [← e]; exact e2⟩)
      · have := e i e2
        simp at this
        exact .inr (by omega)
set_option maxHeartbeats 400000 in
theorem keys1_any (B X : _) (kq : Nat) (out : List Int) (k : Int) (hb : B ≤ X.heap.size) (hl : out.length ≤ 65536) (h : KsAt B kq out X) : Calls Try.prog 47 #[.int .u64 k, .pointer (some ⟨kq, 0, none⟩)] X fun e X' => e = .returned (.tuple #[]) ∧ KsAt B kq (out ++ [k]) X' ∧ Keeps (KsF kq X) X X' ∧ ∀ i, KsF kq X' i → KsF kq X i ∨ X.heap.size ≤ i := by
  obtain ⟨v, v', X', c0, c1, f1, hr, ⟨a', c', rfl⟩, h1, h2, h3⟩ := ks_push hb hl h k
  have HR : Hid (_ = _) := hr
  have HP := hid (And.intro h1 (And.intro h2 h3))
  clear h hr h1 h2 h3
  go_enter Try.func47, Try.ntmps47
  go_wp2_with (at_builtin; refine wpList_append_run rfl _ _ 22 rfl rfl rfl HR.out ?_; clear HR)
  first | refine bodyPost_ret (results_none rfl _ _ _) rfl ?_ | refine bodyPost_end (results_none rfl _ _ _) rfl ?_
  exact ⟨rfl, HP.out⟩
theorem tel_keys (B kq : Nat) : Tel 47 kq (fun out X => B ≤ X.heap.size ∧ KsAt B kq out X) (KsF kq) where
  ent := enters (by kernel_rfl)
  call X out k hl h := by
    refine (keys1_any B X kq out k h.1 hl h.2).mono ?_
    rintro e X' ⟨rfl, h1, h2, h3⟩
    exact ⟨rfl, ⟨Nat.le_trans h.1 h2.size, h1⟩, h2, h3⟩
  keep := by
    intro S X X' out h k hs
    obtain ⟨hb, v, q1, q2, q3⟩ := h
    have kb := k.block kq (lt_of_block q1) (fun e => hs _ e (.inl rfl))
    refine ⟨⟨Nat.le_trans hb k.size, v, kb.trans q1, own_keeps q2 k (fun g hg e => hs g e (.inr ⟨_, _, _, q1, hg⟩)), q3⟩, fun i hi => ?_⟩
    rcases hi with e | ⟨u, t, fr, e1, e2⟩
    · exact .inl e
    · exact .inr ⟨u, t, fr, kb ▸ e1, e2⟩
  lt := by
    intro X out k h e
    obtain ⟨hb, v, q1, q2, q3⟩ := h
    rcases e with e | ⟨u, t, fr, e1, e2⟩
    · rw [e]; exact lt_of_block q1
    · rw [q1] at e1
      simp at e1
      obtain ⟨rfl, _⟩ := e1
      exact (own_block q2 e2).1
set_option maxHeartbeats 1000000 in
theorem len_any (b g c : Nat) (s : Wd) (at_ : Int) (hat : isW at_) (rms : Rm s 131100) (w : World) (h : WdAt 27 w b g c s) :
    Calls Try.prog 19 #[.iface 24 (.pointer (some ⟨b, 0, none⟩)), .int .u64 at_] w fun e w' => e = .returned (.tuple #[.int .i64 (s.len at_).1.1, .int .i64 (s.len at_).1.2]) ∧ Hs 27 w b g c w' (s.len at_).2 := by
  have HE : Hid (Ea (fun out X => X.heap[w.heap.size]? = some (cntO out.length)) (fun _ k => k = w.heap.size) w b g c (w.alloc (cntO 0)) s []) := by
    have l := Lo.new h (cntO 0)
    exact hid ⟨(Hs.start h).new (keeps_new w _), l.at_, fun k e => by subst e; exact ⟨Nat.le_refl _, l.no⟩⟩
  clear h
  unfold Wd.len
  obtain ⟨⟨⟨out, e⟩, s1⟩, eq1⟩ : ∃ r, s.each at_ = r := ⟨_, rfl⟩
  have HC : Hid (Calls Try.prog 46 #[.iface 24 (.pointer (some ⟨b, 0, none⟩)), .int .u64 at_, .func (.func 48) #[] #[.pointer (some ⟨w.heap.size, 0, none⟩)]] (w.alloc (cntO 0)) fun e' w' => e' = .returned (.int .i64 e) ∧ Ea (fun out X => X.heap[w.heap.size]? = some (cntO out.length)) (fun _ k => k = w.heap.size) w b g c w' s1 out) := by
    have q := each_any (tel_len w.heap.size) b g c s at_ hat rms w _ HE.out
    rw [eq1] at q
    exact hid q
  rw [eq1]
  dsimp only
  clear HE eq1
  by_cases he : e = 0
  · subst he
    rw [if_neg (by simp)]
    go_enter Try.func19, Try.ntmps19
    go_wp2_with fail
    refine HC.out.mono ?_
    rintro e_ w1 ⟨rfl, h1⟩
    have c0 : w1.cell? ⟨w.heap.size, 0, none⟩ = some (.int .i64 (out.length : Int)) := by rw [cell_of_block h1.j]; rfl
    have H1 := hid h1.hs
    clear HC h1
    go_wp2_with fail
    go_ret2
    exact ⟨rfl, H1.out⟩
  · rw [if_pos he]
    go_enter Try.func19, Try.ntmps19
    go_wp2_with fail
    refine HC.out.mono ?_
    rintro e_ w1 ⟨rfl, h1⟩
    have H1 := hid h1.hs
    clear HC h1
    go_wp2_with fail
    go_ret2
    exact ⟨rfl, H1.out⟩
set_option maxHeartbeats 1000000 in
theorem keys_any (b g c : Nat) (s : Wd) (at_ : Int) (hat : isW at_) (rms : Rm s 131100) (w : World) (h : WdAt 27 w b g c s) :
    Calls Try.prog 18 #[.iface 24 (.pointer (some ⟨b, 0, none⟩)), .int .u64 at_] w fun e w' => ∃ v, e = .returned (.tuple #[v, .int .i64 (s.keys at_).1.2]) ∧ Wr w' w.heap.size v (s.keys at_).1.1 ∧ (∀ k, v.ownBlock = some k → ¬ own w' b g k) ∧ Hs 27 w b g c w' (s.keys at_).2 := by
  have HE : Hid (Ea (fun out X => w.heap.size ≤ X.heap.size ∧ KsAt w.heap.size w.heap.size out X) (KsF w.heap.size) w b g c (w.alloc (.cells #[.slice none 0 0] 22 (0, 0))) s []) := by
    have l := Lo.new h (.cells #[.slice none 0 0] 22 (0, 0))
    refine hid ⟨(Hs.start h).new (keeps_new w _), ⟨by simp, _, l.at_, Wr.nil _ _, by simp [Value.ownBlock]⟩, fun k e => ?_⟩
    rcases e with e | ⟨u, t, fr, e1, e2⟩
    · subst e; exact ⟨Nat.le_refl _, l.no⟩
    · rw [l.at_] at e1
      simp at e1
      obtain ⟨rfl, _⟩ := e1
      simp [Value.ownBlock] at e2
  clear h
  unfold Wd.keys
  obtain ⟨⟨⟨out, e⟩, s1⟩, eq1⟩ : ∃ r, s.each at_ = r := ⟨_, rfl⟩
  have HC : Hid (Calls Try.prog 46 #[.iface 24 (.pointer (some ⟨b, 0, none⟩)), .int .u64 at_, .func (.func 47) #[] #[.pointer (some ⟨w.heap.size, 0, none⟩)]] (w.alloc (.cells #[.slice none 0 0] 22 (0, 0))) fun e' w' => e' = .returned (.int .i64 e) ∧ Ea (fun out X => w.heap.size ≤ X.heap.size ∧ KsAt w.heap.size w.heap.size out X) (KsF w.heap.size) w b g c w' s1 out) := by
    have q := each_any (tel_keys w.heap.size w.heap.size) b g c s at_ hat rms w _ HE.out
    rw [eq1] at q
    exact hid q
  rw [eq1]
  dsimp only
  clear HE eq1
  by_cases he : e = 0
  · subst he
    rw [if_neg (by simp)]
    go_enter Try.func18, Try.ntmps18
    go_wp2_with fail
    refine HC.out.mono ?_
    rintro e_ w1 ⟨rfl, h1⟩
    obtain ⟨_, v, q1, q2, q3⟩ := h1.j
    obtain ⟨a', c', rfl⟩ := q2.form
    have c0 : w1.cell? ⟨w.heap.size, 0, none⟩ = some (.slice a' out.length c') := by rw [cell_of_block q1]; rfl
    have H1 : Hid (Wr w1 w.heap.size (.slice a' out.length c') out ∧ (∀ k, (Value.slice a' out.length c').ownBlock = some k → ¬ own w1 b g k) ∧ Hs 27 w b g c w1 s1) := hid ⟨q2, fun k hk => (h1.fp k (.inr ⟨_, _, _, q1, hk⟩)).2, h1.hs⟩
    clear HC h1 q1 q2 q3
    go_wp2_with fail
    go_ret2
    exact ⟨_, rfl, H1.out⟩
  · rw [if_pos he]
    go_enter Try.func18, Try.ntmps18
    go_wp2_with fail
    refine HC.out.mono ?_
    rintro e_ w1 ⟨rfl, h1⟩
    have H1 := hid h1.hs
    clear HC h1
    go_wp2_with fail
    go_ret2
    exact ⟨_, rfl, Wr.nil _ _, fun k hk => by simp [Value.ownBlock] at hk, H1.out⟩
end Go.Proofs.Ytjgibkofenkehaa
