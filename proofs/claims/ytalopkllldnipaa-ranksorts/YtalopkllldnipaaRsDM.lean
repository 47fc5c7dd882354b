/-
  No statement of the seat is proved here. (Several texts in one: RsD, RsE, RsF, RsG.)
-/
import Derived.Test.YtalopkllldnipaaRsAM

/- A room of nodes, as plain data: a node taken, a node given back (layer 24), pure. No statement of the seat is proved here. -/
namespace Go.Proofs.Ytalopkllldnipaa
open Go.RowKit Bt

/-- A list of pieces by their first cells. -/
def chain (W : List Int) : Int → List Int → Prop
  | h, [] => h = 0
  | h, a :: r => h = a + 1 ∧ chain W (oat W a.toNat) r
theorem chain_same {W W' : List Int} : ∀ {l : List Int} {h : Int}, (∀ a ∈ l, oat W' a.toNat = oat W a.toNat) → chain W h l → chain W' h l
  | [], _, _, q => q
  | a :: r, h, hs, q => ⟨q.1, by rw [hs a (by simp)]; exact chain_same (fun b hb => hs b (by simp [hb])) q.2⟩
/-- A room of n cells with nodes P that are out, and those that were given back. -/
structure Ro (W : List Int) (N : Nat) (P bk : List Int) : Prop where
  len : W.length = N
  n40 : 40 ≤ N
  n400 : N ≤ 400
  ws : ∀ c, isW (oat W c)
  w1 : oat W 1 = N
  w0 : oat W 0 = 22 + 5 * ((P ++ bk).length : Int)
  w0n : oat W 0 ≤ N
  nd : (P ++ bk).Nodup
  at_ : ∀ a ∈ P ++ bk, 22 ≤ a ∧ a % 5 = 2 ∧ a + 5 ≤ oat W 0
  fr : chain W (oat W 6) bk
section
variable {W W' P Q bk : List Int} {N : Nat} {a : Int} {s : Wd}
theorem Ro.sp (h : Ro W N P bk) : Sp P N := ⟨(List.nodup_append.1 h.nd).1, fun a ha => by have := h.at_ a (List.mem_append_left _ ha); have := h.w0n; omega⟩
theorem Ro.perm (h : Ro W N P bk) (p : P.Perm Q) : Ro W N Q bk := by
  have q := p.append_right bk
  exact ⟨h.len, h.n40, h.n400, h.ws, h.w1, by rw [← q.length_eq]; exact h.w0, h.w0n, q.nodup_iff.1 h.nd, fun a ha => h.at_ a (q.mem_iff.2 ha), h.fr⟩
theorem Ro.same (h : Ro W N P bk) (hl : W'.length = W.length) (hw : ∀ c, isW (oat W' c)) (h18 : ∀ c, c < 18 → oat W' c = oat W c) (hb : ∀ a ∈ bk, oat W' a.toNat = oat W a.toNat) : Ro W' N P bk :=
  ⟨hl.trans h.len, h.n40, h.n400, hw, (h18 1 (by omega)).trans h.w1, (h18 0 (by omega)).trans h.w0, by rw [h18 0 (by omega)]; exact h.w0n, h.nd, fun a ha => by rw [h18 0 (by omega)]; exact h.at_ a ha, by rw [h18 6 (by omega)]; exact chain_same hb h.fr⟩
/-- Nodes that are out are written over. -/
theorem Ro.frm (h : Ro W N P bk) (hf : Frm P W W') (hw : ∀ c, isW (oat W' c)) : Ro W' N P bk := by
  refine h.same hf.1 hw (fun c hc => hf.2 c (fun a ha => ?_)) (fun b hb => hf.2 _ (fun a ha => ?_))
  · have := h.at_ a (List.mem_append_left _ ha)
    omega
  · have h1 := h.at_ a (List.mem_append_left _ ha)
    have h2 := h.at_ b (List.mem_append_right _ hb)
    have h3 := (List.nodup_append.1 h.nd).2.2 a ha b hb
    omega
theorem Ro.bkl (h : Ro W N P bk) : (P ++ bk).length ≤ 80 := by
  have h1 := h.w0
  have h2 := h.w0n
  have h3 := h.n400
  omega
theorem hd5 : hdA 0 5 = ((6 : Nat) : Int) := by kernel_rfl
theorem en0 : endA 0 = ((1 : Nat) : Int) := by kernel_rfl
theorem may5' : mayN 5 := by unfold mayN; decide
/-- Is there room for one more? -/
def Space (N : Nat) (P bk : List Int) : Prop := bk ≠ [] ∨ 22 + 5 * (P.length + 1) ≤ N
theorem free_sm (h : Ro W N P bk) (hf : s.f < 0) (hW : s.W = W) : ∃ s1, s.free 0 = ((oat W 0, (N : Int) - oat W 0, 0), s1) ∧ Sm s s1 2 := by
  have h0 := h.w0n
  have h1 := h.w0
  have h4 := h.n400
  have hl := h.len
  obtain ⟨s1, e1, m1⟩ := get_sm (s := s) hf (a := 0) (by rw [hW, hl]; have := h.n40; omega)
  obtain ⟨s2, e2, m2⟩ := get_sm (s := s1) (by rw [m1.ct.f]; exact hf) (a := 1) (by rw [m1.W, hW, hl]; have := h.n40; omega)
  refine ⟨s2, ?_, m1.trans m2⟩
  have e1' : s.get 0 = ((oat s.W 0, 0), s1) := e1
  unfold Wd.free
  rw [en0, e1']
  simp only [ne_eq, not_true_eq_false, if_false]
  rw [e2]
  simp only [not_true_eq_false, if_false]
  rw [m1.W, hW, h.w1]
  by_cases hlt : oat W 0 < (N : Int)
  · rw [if_pos hlt, uw_id ⟨by omega, by omega⟩]
  · rw [if_neg hlt, show (N : Int) - oat W 0 = 0 by omega]
theorem lft_sm (h : Ro W N P bk) (hf : s.f < 0) (hW : s.W = W) : ∃ s1, s.lft 0 = (((N : Int) - oat W 0, 0), s1) ∧ Sm s s1 2 := by
  obtain ⟨s1, e1, m1⟩ := free_sm h hf hW
  refine ⟨s1, ?_, m1⟩
  unfold Wd.lft
  rw [e1]
theorem take_no (h : Ro W N P bk) (hsp : ¬ Space N P bk) (hf : s.f < 0) (hW : s.W = W) : ∃ s1, s.take 0 5 = ((0, 9), s1) ∧ Sm s s1 3 := by
  have hb : bk = [] := by
    by_cases q : bk = []
    · exact q
    · exact absurd (.inl q) hsp
  subst hb
  have hN : ¬ 22 + 5 * (P.length + 1) ≤ N := fun q => hsp (.inr q)
  have hl := h.len
  have h40 := h.n40
  obtain ⟨s1, e1, m1⟩ := get_sm (s := s) hf (a := 6) (by rw [hW, hl]; omega)
  have f1 : s1.f < 0 := by rw [m1.ct.f]; exact hf
  obtain ⟨s2, e2, m2⟩ := free_sm (s := s1) h f1 (by rw [m1.W, hW])
  refine ⟨s2, ?_, m1.trans m2⟩
  have h6 : oat s.W 6 = 0 := by rw [hW]; exact h.fr
  have hw := h.w0
  rw [List.append_nil] at hw
  unfold Wd.take
  rw [if_neg (by simpa using may5'), hd5, e1, h6]
  simp only [ne_eq, not_true_eq_false, if_false, if_true]
  unfold Wd.takeN
  rw [e2]
  simp only [ne_eq, not_true_eq_false, if_false]
  rw [if_pos (by omega)]
theorem isW_set {W : List Int} (h : ∀ c, isW (oat W c)) {x : Int} (hx : isW x) (i : Nat) : ∀ c, isW (oat (W.set i x) c) := fun c => by
  rw [oat_set]
  split
  · exact hx
  · exact h c
theorem take_yes (h : Ro W N P bk) (hsp : Space N P bk) : ∃ n W1 bk1, Ro W1 N (n :: P) bk1 ∧ (∀ c, 18 ≤ c → oat W1 c = oat W c) ∧ (bk1.length + 1 = bk.length ∨ (bk = [] ∧ bk1 = [])) ∧ ∀ s : Wd, s.f < 0 → s.W = W → ∃ s1, s.take 0 5 = ((n, 0), s1) ∧ s1.W = W1 ∧ Ct s s1 3 1 := by
  have hl := h.len
  have h40 := h.n40
  have h4 := h.n400
  have hw := h.w0
  have hwn := h.w0n
  cases bk with
  | nil =>
    have hN : 22 + 5 * (P.length + 1) ≤ N := by
      rcases hsp with q | q
      · exact absurd rfl q
      · exact q
    rw [List.append_nil] at hw
    have hset : ∀ c, oat (W.set 0 (oat W 0 + 5)) c = if 0 = c then oat W 0 + 5 else oat W c := fun c => by
      rw [oat_set]
      by_cases hc : 0 = c
      · rw [if_pos ⟨hc, by omega⟩, if_pos hc]
      · rw [if_neg (fun q => hc q.1), if_neg hc]
    refine ⟨oat W 0, W.set 0 (oat W 0 + 5), [], ⟨by rw [List.length_set]; exact hl, h40, h4, isW_set h.ws ⟨by omega, by omega⟩ 0, by rw [hset, if_neg (by omega)]; exact h.w1, by rw [hset, if_pos rfl, List.append_nil, List.length_cons]; omega, by rw [hset, if_pos rfl]; omega, ?_, fun b hb => ?_, ?_⟩, fun c hc => by rw [hset, if_neg (by omega)], .inr ⟨rfl, rfl⟩, fun s hf hW => ?_⟩
    · rw [List.append_nil, List.nodup_cons]
      have nd := h.nd
      rw [List.append_nil] at nd
      exact ⟨fun q => by have := h.at_ (oat W 0) (List.mem_append_left _ q); omega, nd⟩
    · rw [hset, if_pos rfl]
      rw [List.append_nil] at hb
      rcases List.mem_cons.1 hb with e | hb
      · rw [e]; omega
      · have := h.at_ b (List.mem_append_left _ hb); omega
    · rw [hset, if_neg (by omega)]
      exact h.fr
    · obtain ⟨s1, e1, m1⟩ := get_sm (s := s) hf (a := 6) (by rw [hW, hl]; omega)
      have f1 : s1.f < 0 := by rw [m1.ct.f]; exact hf
      obtain ⟨s2, e2, m2⟩ := free_sm (s := s1) h f1 (by rw [m1.W, hW])
      have f2 : s2.f < 0 := by rw [m2.ct.f]; exact f1
      have w2 : s2.W = W := by rw [m2.W, m1.W, hW]
      obtain ⟨s3, e3, w3, c3⟩ := put_ct (s := s2) f2 (a := 0) (by rw [w2, hl]; omega) (oat W 0 + 5)
      refine ⟨s3, ?_, by rw [w3, w2], ((m1.ct.trans m2.ct).trans c3).le (by omega) (by omega)⟩
      have h6 : oat s.W 6 = 0 := by rw [hW]; exact h.fr
      have e3' : s2.put 0 (oat W 0 + 5) = (0, s3) := e3
      unfold Wd.take
      rw [if_neg (by simpa using may5'), hd5, e1, h6]
      simp only [ne_eq, not_true_eq_false, if_false, if_true]
      unfold Wd.takeN
      rw [e2]
      simp only [ne_eq, not_true_eq_false, if_false]
      rw [if_neg (by omega), uw_id ⟨by omega, by omega⟩, e3']
      rfl
  | cons a r =>
    have ha := h.at_ a (by simp)
    have hfr := h.fr
    have hset : ∀ c, oat (W.set 6 (oat W a.toNat)) c = if 6 = c then oat W a.toNat else oat W c := fun c => by
      rw [oat_set]
      by_cases hc : 6 = c
      · rw [if_pos ⟨hc, by omega⟩, if_pos hc]
      · rw [if_neg (fun q => hc q.1), if_neg hc]
    have hp : (a :: P ++ r).Perm (P ++ a :: r) := List.perm_middle.symm
    refine ⟨a, W.set 6 (oat W a.toNat), r, ⟨by rw [List.length_set]; exact hl, h40, h4, isW_set h.ws (h.ws _) 6, by rw [hset, if_neg (by omega)]; exact h.w1, by rw [hset, if_neg (by omega), hp.length_eq]; exact hw, by rw [hset, if_neg (by omega)]; exact hwn, hp.nodup_iff.2 h.nd, fun b hb => ?_, ?_⟩, fun c hc => by rw [hset, if_neg (by omega)], .inl rfl, fun s hf hW => ?_⟩
    · rw [hset, if_neg (by omega)]
      exact h.at_ b (hp.mem_iff.1 hb)
    · rw [hset, if_pos rfl]
      exact chain_same (fun b hb => by have := h.at_ b (by simp [hb]); rw [hset, if_neg (by omega)]) hfr.2
    · obtain ⟨s1, e1, m1⟩ := get_sm (s := s) hf (a := 6) (by rw [hW, hl]; omega)
      have f1 : s1.f < 0 := by rw [m1.ct.f]; exact hf
      obtain ⟨s2, e2, m2⟩ := get_sm (s := s1) f1 (a := a.toNat) (by rw [m1.W, hW, hl]; omega)
      have f2 : s2.f < 0 := by rw [m2.ct.f]; exact f1
      have w2 : s2.W = W := by rw [m2.W, m1.W, hW]
      obtain ⟨s3, e3, w3, c3⟩ := put_ct (s := s2) f2 (a := 6) (by rw [w2, hl]; omega) (oat W a.toNat)
      refine ⟨s3, ?_, by rw [w3, w2], ((m1.ct.trans m2.ct).trans c3).le (by omega) (by omega)⟩
      have h6 : oat s.W 6 = a + 1 := by rw [hW]; exact hfr.1
      rw [m1.W, hW, show ((a.toNat : Nat) : Int) = a by omega] at e2
      unfold Wd.take
      rw [if_neg (by simpa using may5'), hd5, e1, h6]
      simp only [ne_eq, not_true_eq_false, if_false]
      rw [if_neg (by omega), show a + 1 - 1 = a by omega, uw_id ⟨by omega, by omega⟩]
      unfold Wd.takeG
      rw [e2]
      simp only [ne_eq, not_true_eq_false, if_false]
      rw [e3]
      rfl
theorem give_ct (h : Ro W N (a :: P) bk) (hf : s.f < 0) (hW : s.W = W) : ∃ s1, giveU 0 a 5 s = (((), 0), s1) ∧ Ro s1.W N P (a :: bk) ∧ (∀ c : Nat, 18 ≤ c → (c : Int) ≠ a → oat s1.W c = oat W c) ∧ Ct s s1 1 2 := by
  have hl := h.len
  have h40 := h.n40
  have h4 := h.n400
  have hw := h.w0
  have hwn := h.w0n
  have ha := h.at_ a (by simp)
  obtain ⟨s1, e1, m1⟩ := get_sm (s := s) hf (a := 6) (by rw [hW, hl]; omega)
  have f1 : s1.f < 0 := by rw [m1.ct.f]; exact hf
  have w1 : s1.W = W := by rw [m1.W, hW]
  obtain ⟨s2, e2, w2, c2⟩ := put_ct (s := s1) f1 (a := a.toNat) (by rw [w1, hl]; omega) (oat W 6)
  have f2 : s2.f < 0 := by rw [c2.f]; exact f1
  obtain ⟨s3, e3, w3, c3⟩ := put_ct (s := s2) f2 (a := 6) (by rw [w2, List.length_set, w1, hl]; omega) (a + 1)
  have hset : ∀ c, oat s3.W c = if 6 = c then a + 1 else if a.toNat = c then oat W 6 else oat W c := fun c => by
    rw [w3, oat_set, w2, oat_set, w1, List.length_set]
    by_cases hc : 6 = c
    · rw [if_pos ⟨hc, by omega⟩, if_pos hc]
    · rw [if_neg (fun q => hc q.1), if_neg hc]
      by_cases hd : a.toNat = c
      · rw [if_pos ⟨hd, by omega⟩, if_pos hd]
      · rw [if_neg (fun q => hd q.1), if_neg hd]
  have hp : (P ++ a :: bk).Perm (a :: P ++ bk) := List.perm_middle
  have hnd : (P ++ a :: bk).Nodup := hp.nodup_iff.2 h.nd
  refine ⟨s3, ?_, ⟨by rw [w3, List.length_set, w2, List.length_set, w1]; exact hl, h40, h4, fun c => ?_, by rw [hset, if_neg (by omega), if_neg (by omega)]; exact h.w1, by rw [hset, if_neg (by omega), if_neg (by omega), hp.length_eq]; exact hw, by rw [hset, if_neg (by omega), if_neg (by omega)]; exact hwn, hnd, fun b hb => by rw [hset, if_neg (by omega), if_neg (by omega)]; exact h.at_ b (hp.mem_iff.1 hb), ?_⟩, fun c hc hca => by rw [hset, if_neg (by omega), if_neg (by omega)], ((m1.ct.trans c2).trans c3).le (by omega) (by omega)⟩
  · rw [show ((a.toNat : Nat) : Int) = a by omega] at e2
    unfold giveU Wd.give
    rw [if_neg (by simpa using may5'), hd5, e1, hW]
    simp only [ne_eq, not_true_eq_false, if_false]
    rw [e2]
    simp only [not_true_eq_false, if_false]
    rw [uw_id ⟨by omega, by omega⟩, e3]
  · rw [hset]
    split
    · exact ⟨by omega, by omega⟩
    · split
      · exact h.ws _
      · exact h.ws _
  · rw [hset, if_pos rfl]
    refine ⟨rfl, ?_⟩
    rw [hset, if_neg (by omega), if_pos rfl]
    refine chain_same (fun b hb => ?_) h.fr
    have h1 := h.at_ b (by simp [hb])
    have h2 := (List.nodup_append.1 hnd).2.1
    have h3 := (List.nodup_cons.1 h2).1
    have h4 : b ≠ a := fun e => h3 (e ▸ hb)
    rw [hset, if_neg (by omega), if_neg (by omega)]
/-- Given. -/
theorem go_sm {N : Nat} (hN : N ≤ 400) : ∀ (F : List Int) (m : Nat) (out : List Int) (x : Int) (s : Wd), s.f < 0 → s.W.length = N → chain s.W x F → (∀ a ∈ F, 0 ≤ a ∧ a + 5 ≤ (N : Int)) → F.length ≤ m → out.length + F.length < 60000 → ∃ s', Gv.go m ⟨out, x, 0, s⟩ = ⟨out ++ F, 0, 0, s'⟩ ∧ Sm s s' F.length
  | [], m, out, x, s, _, _, hc, _, _, _ => by
    obtain rfl : x = 0 := hc
    refine ⟨s, ?_, .refl s⟩
    rw [Gv.go_stop (fun q => q.2.1 rfl), List.append_nil]
  | a :: F, 0, _, _, _, _, _, _, _, hm, _ => by simp at hm
  | a :: F, m + 1, out, x, s, hf, hl, hc, ha, hm, ho => by
    obtain ⟨rfl, hc2⟩ := hc
    have h1 := ha a (by simp)
    obtain ⟨s1, e1, m1⟩ := get_sm (s := s) hf (a := a.toNat) (by omega)
    rw [show ((a.toNat : Nat) : Int) = a by omega] at e1
    have hcn : chain s1.W (oat s.W a.toNat) F := by rw [m1.W]; exact hc2
    obtain ⟨s2, e2, m2⟩ := go_sm hN F m (out ++ [a]) (oat s.W a.toNat) s1 (by rw [m1.ct.f]; exact hf) (by rw [m1.W]; exact hl) hcn (fun b hb => ha b (by simp [hb])) (by simp at hm; omega) (by rw [List.length_append]; simp at ho ⊢; omega)
    refine ⟨s2, ?_, (m1.trans m2).le (by simp; omega)⟩
    have hon : (⟨out, a + 1, 0, s⟩ : Gv).on := ⟨rfl, by show a + 1 ≠ 0; omega, by show out.length ≠ 65536; simp at ho; omega⟩
    rw [Gv.go_next hon]
    have e3 : (⟨out, a + 1, 0, s⟩ : Gv).step = ⟨out ++ [a], oat s.W a.toNat, 0, s1⟩ := by
      unfold Gv.step
      simp only
      rw [show a + 1 - 1 = a by omega, uw_id ⟨by omega, by omega⟩, e1]
    rw [e3, e2, List.append_assoc]
    rfl
theorem given_sm (h : Ro W N P bk) (hf : s.f < 0) (hW : s.W = W) : ∃ s1, s.given 0 5 = ((bk, 0), s1) ∧ Sm s s1 (bk.length + 1) := by
  have hl := h.len
  have h40 := h.n40
  have hb := h.bkl
  rw [List.length_append] at hb
  obtain ⟨s1, e1, m1⟩ := get_sm (s := s) hf (a := 6) (by rw [hW, hl]; omega)
  rw [hW] at e1
  obtain ⟨s2, e2, m2⟩ := go_sm (N := N) h.n400 bk 65536 [] (oat W 6) s1 (by rw [m1.ct.f]; exact hf) (by rw [m1.W, hW]; exact hl) (by rw [m1.W, hW]; exact h.fr) (fun a ha => by have := h.at_ a (List.mem_append_right _ ha); have := h.w0n; omega) (by omega) (by simp; omega)
  refine ⟨s2, ?_, (m1.trans m2).le (by omega)⟩
  unfold Wd.given
  rw [if_neg (by simpa using may5'), hd5, e1, e2, List.nil_append]
  rfl
end
end Go.Proofs.Ytalopkllldnipaa


/- Two heaps of one room, as plain data; what the calls that look, push, pop and join do to them (layer 24), pure. No statement of the seat is proved here. -/
namespace Go.Proofs.Ytalopkllldnipaa
open Go.RowKit Bt

/-- Two heaps, at hA and at hB, in a room. -/
structure Hp (W : List Int) (N hA : Nat) (A : Bt) (hB : Nat) (B : Bt) (bk : List Int) : Prop where
  ro : Ro W N (A.ads ++ B.ads) bk
  hh : (hA = 18 ∧ hB = 20) ∨ (hA = 20 ∧ hB = 18)
  ca : oat W hA = A.sz
  ra : oat W (hA + 1) = A.to
  cb : oat W hB = B.sz
  rb : oat W (hB + 1) = B.to
  la : A.Lay W
  lb : B.Lay W
  oa : A.ok
  ob : B.ok
  kw : ∀ p ∈ A.ens ++ B.ens, reK p.1 = true ∧ isW p.1 ∧ isW p.2
section
variable {W W' bk : List Int} {N hA hB : Nat} {A B M : Bt} {s : Wd}
theorem Hp.swap (h : Hp W N hA A hB B bk) : Hp W N hB B hA A bk :=
  ⟨h.ro.perm List.perm_append_comm, h.hh.symm.imp (fun q => ⟨q.2, q.1⟩) (fun q => ⟨q.2, q.1⟩), h.cb, h.rb, h.ca, h.ra, h.lb, h.la, h.ob, h.oa, fun p hp => h.kw p (List.perm_append_comm.mem_iff.1 hp)⟩
theorem Hp.szs (h : Hp W N hA A hB B bk) : 22 + 5 * (A.sz + B.sz + bk.length) ≤ N ∧ oat W 0 = 22 + 5 * ((A.sz + B.sz + bk.length : Nat) : Int) := by
  have h1 := h.ro.w0
  have h2 := h.ro.w0n
  rw [List.length_append, List.length_append, ads_sz, ads_sz] at h1
  omega
theorem Hp.rks (h : Hp W N hA A hB B bk) : A.rk ≤ 6 ∧ B.rk ≤ 6 := by
  have h1 := h.szs.1
  have h2 := h.ro.n400
  have h3 := rk_sz A h.oa
  have h4 := rk_sz B h.ob
  constructor
  · rcases Nat.lt_or_ge 6 A.rk with q | q
    · have : 2 ^ 7 ≤ 2 ^ A.rk := Nat.pow_le_pow_right (by omega) q
      omega
    · exact q
  · rcases Nat.lt_or_ge 6 B.rk with q | q
    · have : 2 ^ 7 ≤ 2 ^ B.rk := Nat.pow_le_pow_right (by omega) q
      omega
    · exact q
theorem Hp.len6 (h : Hp W N hA A hB B bk) : W.length ≤ 1000000 := by have := h.ro.len; have := h.ro.n400; omega
theorem Hp.same (h : Hp W N hA A hB B bk) (e : W' = W) : Hp W' N hA A hB B bk := by rw [e]; exact h
theorem rk_le_sz : ∀ (T : Bt), T.rk ≤ T.sz
  | nil => Nat.le_refl _
  | nd a k x l r => by have := rk_le_sz r; simp only [rk, sz]; omega
theorem to_isW {P : List Int} {T : Bt} (h : Sp (T.ads ++ P) N) (hN : N ≤ 1000000) : isW T.to := by
  rcases to_nn h with q | q
  · rw [q.1]; exact ⟨by omega, by omega⟩
  · exact ⟨by omega, by omega⟩
/-- The cells of a tree's nodes are words. -/
theorem lay_isW (hN : N ≤ 1000000) : ∀ {T : Bt}, T.Lay W → Sp T.ads N → T.sz ≤ 1000000 → (∀ p ∈ T.ens, isW p.1 ∧ isW p.2) → ∀ a ∈ T.ads, ∀ i : Nat, i < 5 → isW (oat W (a.toNat + i))
  | nil, _, _, _, _, a, ha, _, _ => by simp [ads] at ha
  | nd a0 k x l r, hl, hs, hz, hw, a, ha, i, hi => by
    have hz2 : l.sz + r.sz + 1 ≤ 1000000 := hz
    have sl : Sp (l.ads ++ r.ads) N := ⟨(List.nodup_cons.1 hs.nd).2, fun b hb => hs.at_ b (List.mem_cons_of_mem _ hb)⟩
    rcases List.mem_cons.1 ha with rfl | ha
    · obtain ⟨c0, c1, c2, c3, c4⟩ := hl.1
      have hk := hw (k, x) (by simp [ens])
      have hr := rk_le_sz r
      match i, hi with
      | 0, _ => rw [Nat.add_zero, c0]; exact hk.1
      | 1, _ => rw [c1]; exact hk.2
      | 2, _ => rw [c2]; exact to_isW sl hN
      | 3, _ => rw [c3]; exact to_isW (sl.perm List.perm_append_comm) hN
      | 4, _ => rw [c4]; exact ⟨by omega, by omega⟩
    · rcases List.mem_append.1 ha with ha | ha
      · exact lay_isW hN hl.2.1 sl.left (by omega) (fun p hp => hw p (by simp [ens, hp])) a ha i hi
      · exact lay_isW hN hl.2.2 sl.right (by omega) (fun p hp => hw p (by simp [ens, hp])) a ha i hi
/-- Words behind a frame whose nodes are known. -/
theorem frm_isW {P : List Int} (hf : Frm P W W') (hw : ∀ c, isW (oat W c)) (hp : ∀ a ∈ P, 0 ≤ a ∧ ∀ i : Nat, i < 5 → isW (oat W' (a.toNat + i))) : ∀ c, isW (oat W' c) := by
  intro c
  by_cases q : ∃ a ∈ P, a ≤ (c : Int) ∧ (c : Int) < a + 5
  · obtain ⟨a, ha, h1, h2⟩ := q
    have h3 := (hp a ha).1
    have h4 := (hp a ha).2 (c - a.toNat) (by omega)
    rw [show a.toNat + (c - a.toNat) = c by omega] at h4
    exact h4
  · rw [hf.2 c (fun a ha e => q ⟨a, ha, e⟩)]
    exact hw c
/-- A heap's own cells. -/
theorem hep_sm (h : Hp W N hA A hB B bk) (hf : s.f < 0) (hW : s.W = W) : ∃ s1, hepF (hA : Int) s = ((((A.sz : Int), A.to), 0), s1) ∧ Sm s s1 2 := by
  have hl := h.ro.len
  have h4 := h.ro.n40
  obtain ⟨s1, e1, m1⟩ := gets_sm (s := s) hf (a := hA) (by rw [hW]; exact h.len6) 2 (by rw [hW, hl]; rcases h.hh with q | q <;> omega)
  refine ⟨s1, ?_, m1⟩
  have e2 : (List.range 2).map (fun i : Nat => oat s.W (hA + i)) = [(A.sz : Int), A.to] := by
    rw [hW, ← h.ca, ← h.ra]
    rfl
  rw [e2] at e1
  have e3 : getsF (hA : Int) 2 s = _ := e1
  unfold hepF
  rw [bnd_ok e3]
  show (if decide ((A.sz : Int) = 0) ≠ decide (A.to = 0) then err (0, 0) 340 else rtn ((A.sz : Int), A.to)) s1 = _
  rw [if_neg]
  · rfl
  · cases A with
    | nil => simp [sz, to]
    | nd a k x l r =>
      have := h.ro.at_ a (by simp [ads])
      have e0 : ¬ (nd a k x l r).sz = 0 := by simp only [sz]; omega
      have e1 : ¬ (nd a k x l r).to = 0 := by simp only [to]; omega
      simp [e0, e1]
theorem bec_ct (h : Hp W N hA A hB B bk) (hf : s.f < 0) (hW : s.W.length = W.length) (h0 : oat s.W hA = A.sz) (h1 : oat s.W (hA + 1) = A.to) (n r : Int) : ∃ s1, becU (hA : Int) ((A.sz : Int), A.to) n r s = (((), 0), s1) ∧ Ct s s1 0 2 ∧ s1.W.length = s.W.length ∧ ∀ c, oat s1.W c = if c = hA then n else if c = hA + 1 then r else oat s.W c := by
  have hl := h.ro.len
  have h4 := h.ro.n40
  obtain ⟨s1, e1, c1, l1, w1⟩ := chgK_ct (s := s) hf (a := hA) [(A.sz : Int), A.to] [n, r] (by rw [hW]; exact h.len6) 2 (by rw [hW, hl]; rcases h.hh with q | q <;> omega) (fun i hi => by
    match i, hi with
    | 0, _ => exact h0.symm
    | 1, _ => exact h1.symm)
  refine ⟨s1, e1, c1, l1, fun c => ?_⟩
  rw [w1 c]
  by_cases q : c = hA
  · rw [if_pos (by omega), if_pos q, show c - hA = 0 by omega]
    rfl
  · by_cases q2 : c = hA + 1
    · rw [if_pos (by omega), if_neg q, if_pos q2, show c - hA = 1 by omega]
      rfl
    · rw [if_neg (by omega), if_neg q, if_neg q2]
/-- A heap's tree and count are others now. -/
theorem Hp.become {W1 W2 : List Int} (h : Hp W N hA A hB B bk) {bk' : List Int} (hro : Ro W1 N (M.ads ++ B.ads) bk') (hl : W2.length = W1.length) (hz : isW (M.sz : Int)) (h2 : ∀ c, oat W2 c = if c = hA then (M.sz : Int) else if c = hA + 1 then M.to else oat W1 c)
    (hB0 : oat W1 hB = oat W hB) (hB1 : oat W1 (hB + 1) = oat W (hB + 1)) (hM : M.Lay W1) (hBl : B.Lay W1) (oM : M.ok) (kM : ∀ p ∈ M.ens, reK p.1 = true ∧ isW p.1 ∧ isW p.2) : Hp W2 N hA M hB B bk' := by
  have hh := h.hh
  have hN : N ≤ 1000000 := by have := h.ro.n400; omega
  have same : ∀ c, 22 ≤ c ∨ c < 18 → oat W2 c = oat W1 c := fun c hc => by rw [h2, if_neg (by omega), if_neg (by omega)]
  have ws2 : ∀ c, isW (oat W2 c) := fun c => by
    rw [h2]
    split
    · exact hz
    · split
      · exact to_isW hro.sp hN
      · exact hro.ws c
  have nodes : ∀ a ∈ M.ads ++ B.ads, ∀ i : Nat, i < 5 → oat W2 (a.toNat + i) = oat W1 (a.toNat + i) := fun a ha i _ => same _ (.inl (by have := hro.at_ a (List.mem_append_left _ ha); omega))
  refine ⟨hro.same hl ws2 (fun c hc => same c (.inr hc)) (fun a ha => same _ (.inl (by have := hro.at_ a (List.mem_append_right _ ha); omega))), hh, by rw [h2, if_pos rfl], by rw [h2, if_neg (by omega), if_pos rfl], by rw [h2, if_neg (by omega), if_neg (by omega), hB0]; exact h.cb, by rw [h2, if_neg (by omega), if_neg (by omega), hB1]; exact h.rb, hM.same (fun a ha => nodes a (List.mem_append_left _ ha)), hBl.same (fun a ha => nodes a (List.mem_append_right _ ha)), oM, h.ob, fun p hp => ?_⟩
  rcases List.mem_append.1 hp with hp | hp
  · exact kM p hp
  · exact h.kw p (List.mem_append_right _ hp)

/-- Two trees of a room put together: nothing is done at the turn. -/
theorem mld_at {X Y : Bt} (hl : W.length = N) (hN : N ≤ 1000000) (hf : s.f < 0) (hW : s.W = W) (hX : X.Lay W) (hY : Y.Lay W) (hs : Sp (X.ads ++ Y.ads) N) (hr : X.rk + Y.rk ≤ 128) :
    ∃ s1, mldF X.to Y.to s = (((mrg 128 X Y).to, 0), s1) ∧ Ct s s1 (10 + 6 * (X.rk + Y.rk)) (5 * (X.rk + Y.rk)) ∧ Frm (X.ads ++ Y.ads) W s1.W ∧ (mrg 128 X Y).Lay s1.W := by
  rcases to_nn hs with hx | hx
  · rw [hx.2]
    refine ⟨s, ?_, (Ct.refl s).le (by omega) (by omega), by rw [hW]; exact Frm.refl _ _, by rw [mrg_nil, hW]; exact hY⟩
    rw [mrg_nil]
    rfl
  · have hx0 : ¬ X.to = 0 := by omega
    rcases to_nn (hs.perm List.perm_append_comm) with hy | hy
    · rw [hy.2]
      refine ⟨s, ?_, (Ct.refl s).le (by omega) (by omega), by rw [hW]; exact Frm.refl _ _, by rw [mrg_nil2, hW]; exact hX⟩
      rw [mrg_nil2]
      unfold mldF
      rw [if_neg hx0]
      rfl
    · have hy0 : ¬ Y.to = 0 := by omega
      obtain ⟨s1, e1, m1⟩ := tre_at (s := s) (T := X) hf (by rw [hW, hl]; exact hN) (by rw [hW]; exact hX) (by rw [hW, hl]; exact hs.left)
      have f1 : s1.f < 0 := by rw [m1.ct.f]; exact hf
      obtain ⟨s2, e2, m2⟩ := tre_at (s := s1) (T := Y) f1 (by rw [m1.W, hW, hl]; exact hN) (by rw [m1.W, hW]; exact hY) (by rw [m1.W, hW, hl]; exact hs.right)
      have f2 : s2.f < 0 := by rw [m2.ct.f]; exact f1
      obtain ⟨q, s3, e3, t3, c3, fr3, l3⟩ := uni_at (T := turn0) (GT := 0) (PT := 0) (n := 0) (W := W) (Wt := W) hN hl hl (fun s _ hs => ⟨s, rfl, hs, Ct.refl s⟩) 128 X Y false false s2 f2 (by rw [m2.W, m1.W, hW]) hr (by omega) hX hY (by rw [rs_no]; exact hX) (by rw [rs_no]; exact hY) (by rw [rs_no, rs_no]; exact hs)
      rw [rs_no, rs_no] at t3 fr3 l3
      refine ⟨s3, ?_, (((m1.ct.trans m2.ct).trans c3)).le (by omega) (by omega), fr3, l3⟩
      unfold mldF
      rw [if_neg hx0, if_neg hy0, bnd_ok e1, bnd_ok e2, bnd_ok e3, t3.1]
      rfl
/-- Join. -/
theorem join_at (h : Hp W N hA A hB B bk) (hf : s.f < 0) (hW : s.W = W) : ∃ s1, Wd.rjoin (hA : Int) (hB : Int) s = (((), 0), s1) ∧ Hp s1.W N hA (mrg 128 A B) hB nil bk ∧ Ct s s1 (14 + 6 * (A.rk + B.rk)) (4 + 5 * (A.rk + B.rk)) := by
  have hh := h.hh
  have hN : N ≤ 1000000 := by have := h.ro.n400; omega
  have hrk := h.rks
  have hsz := h.szs
  obtain ⟨s1, e1, m1⟩ := hep_sm (s := s) h hf hW
  have f1 : s1.f < 0 := by rw [m1.ct.f]; exact hf
  have w1 : s1.W = W := by rw [m1.W, hW]
  obtain ⟨s2, e2, m2⟩ := hep_sm (s := s1) h.swap f1 w1
  have f2 : s2.f < 0 := by rw [m2.ct.f]; exact f1
  have w2 : s2.W = W := by rw [m2.W, w1]
  obtain ⟨s3, e3, c3, fr3, l3⟩ := mld_at (s := s2) h.ro.len hN f2 w2 h.la h.lb h.ro.sp (by omega)
  have f3 : s3.f < 0 := by rw [c3.f]; exact f2
  obtain ⟨M, hM⟩ : ∃ M, mrg 128 A B = M := ⟨_, rfl⟩
  have hrr : A.rk + B.rk ≤ 128 := by omega
  have pa : M.ads.Perm (A.ads ++ B.ads) := hM ▸ mrg_ads 128 A B hrr
  have pe : M.ens.Perm (A.ens ++ B.ens) := hM ▸ mrg_ens 128 A B hrr
  have pz : M.sz = A.sz + B.sz := hM ▸ mrg_sz hrr
  have pk : M.ok := hM ▸ mrg_ok 128 A B hrr h.oa h.ob
  rw [hM] at e3 l3 ⊢
  have kM : ∀ p ∈ M.ens, reK p.1 = true ∧ isW p.1 ∧ isW p.2 := fun p hp => h.kw p (pe.mem_iff.1 hp)
  have ws3 : ∀ c, isW (oat s3.W c) := frm_isW fr3 h.ro.ws (fun a ha => ⟨by have := h.ro.at_ a (List.mem_append_left _ ha); omega, lay_isW hN l3 (h.ro.sp.perm pa.symm) (by omega) (fun p hp => (kM p hp).2) a (pa.mem_iff.2 ha)⟩)
  have ro3 : Ro s3.W N (A.ads ++ B.ads) bk := h.ro.frm fr3 ws3
  have low : ∀ c, c < 22 → oat s3.W c = oat W c := fun c hc => fr3.2 c (fun a ha => by have := h.ro.at_ a (List.mem_append_left _ ha); omega)
  have a0 := (low hA (by omega)).trans h.ca
  have a1 := (low (hA + 1) (by omega)).trans h.ra
  obtain ⟨s4, e4, c4, l4, o4⟩ := bec_ct (s := s3) h f3 fr3.1 a0 a1 (M.sz : Int) M.to
  have f4 : s4.f < 0 := by rw [c4.f]; exact f3
  have b0 : oat s4.W hB = B.sz := by rw [o4, if_neg (by omega), if_neg (by omega), low _ (by omega)]; exact h.cb
  have b1 : oat s4.W (hB + 1) = B.to := by rw [o4, if_neg (by omega), if_neg (by omega), low _ (by omega)]; exact h.rb
  obtain ⟨s5, e5, c5, l5, o5⟩ := bec_ct (s := s4) h.swap f4 (l4.trans fr3.1) b0 b1 0 0
  have o6 : ∀ c, oat s5.W c = if c = hA then (M.sz : Int) else if c = hA + 1 then M.to else if c = hB then 0 else if c = hB + 1 then 0 else oat s3.W c := fun c => by
    rw [o5, o4]
    by_cases q1 : c = hA
    · rw [if_neg (by omega), if_neg (by omega), if_pos q1, if_pos q1]
    · by_cases q2 : c = hA + 1
      · rw [if_neg (by omega), if_neg (by omega), if_neg q1, if_pos q2, if_neg q1, if_pos q2]
      · rw [if_neg q1, if_neg q2, if_neg q1, if_neg q2]
  have hi : ∀ c, 22 ≤ c ∨ c < 18 → oat s5.W c = oat s3.W c := fun c hc => by rw [o6, if_neg (by omega), if_neg (by omega), if_neg (by omega), if_neg (by omega)]
  refine ⟨s5, ?_, ⟨?_, hh, by rw [o6, if_pos rfl], by rw [o6, if_neg (by omega), if_pos rfl], by rw [o6, if_neg (by omega), if_neg (by omega), if_pos rfl]; rfl, by rw [o6, if_neg (by omega), if_neg (by omega), if_neg (by omega), if_pos rfl]; rfl, ?_, trivial, pk, trivial, fun p hp => kM p (by simpa [ens] using hp)⟩, (((((m1.ct.trans m2.ct).trans c3).trans c4).trans c5)).le (by omega) (by omega)⟩
  · unfold Wd.rjoin
    rw [if_neg (by omega), bnd_ok e1, bnd_ok e2, bnd_ok e3]
    dsimp only
    rw [show uw ((A.sz : Int) + (B.sz : Int)) = (M.sz : Int) by rw [uw_id ⟨by omega, by omega⟩, pz]; omega, bnd_ok e4]
    exact e5
  · have hro : Ro s3.W N (M.ads ++ (nil : Bt).ads) bk := by
      rw [show (nil : Bt).ads = [] from rfl, List.append_nil]
      exact ro3.perm pa.symm
    refine hro.same (l5.trans l4) (fun c => ?_) (fun c hc => hi c (.inr hc)) (fun a ha => hi _ (.inl (by have := hro.at_ a (List.mem_append_right _ ha); omega)))
    rw [o6]
    split
    · exact ⟨by omega, by omega⟩
    · split
      · exact to_isW hro.sp hN
      · split
        · exact ⟨by omega, by omega⟩
        · split
          · exact ⟨by omega, by omega⟩
          · exact ws3 c
  · exact l3.same (fun a ha i _ => hi _ (.inl (by have := h.ro.at_ a (List.mem_append_left _ (pa.mem_iff.1 ha)); omega)))
end
end Go.Proofs.Ytalopkllldnipaa


/- Two heaps of one room: Push and Pop (layer 24), pure. No statement of the seat is proved here. -/
namespace Go.Proofs.Ytalopkllldnipaa
open Go.RowKit Bt

/-- A tree that can be read, or one node that lies nowhere yet. -/
def RdF (W : List Int) (N : Nat) (T : Bt) (f : Bool) : Prop := LyF W T f ∧ (f = false → Sp T.ads N)
theorem RdF.kids {W : List Int} {N : Nat} {a k x : Int} {l r : Bt} {f : Bool} (h : RdF W N (nd a k x l r) f) : (l.Lay W ∧ r.Lay W) ∧ Sp l.ads N ∧ Sp r.ads N := by
  refine ⟨h.1.kids, ?_⟩
  cases f with
  | true =>
    obtain ⟨a', k', x', e⟩ : (nd a k x l r).lone := h.1
    injection e with _ _ _ e1 e2
    subst e1 e2
    exact ⟨⟨List.nodup_nil, fun _ q => by cases q⟩, ⟨List.nodup_nil, fun _ q => by cases q⟩⟩
  | false =>
    have q := h.2 rfl
    have e : (nd a k x l r).ads = [a] ++ (l.ads ++ r.ads) := rfl
    rw [e] at q
    exact ⟨q.right.left, q.right.right⟩
section
variable {W : List Int} {N : Nat} {T : Wd → (Int × Int) × Wd} {GT : Nat} {e : Int}
/-- What is refused at the turn was not put. -/
theorem uni_fail (hN6 : N ≤ 1000000) (hN : W.length = N) (he : e ≠ 0) (hT : ∀ s, s.f < 0 → s.W = W → ∃ s1, T s = ((0, e), s1) ∧ Sm s s1 GT) :
    ∀ (k : Nat) (A B : Bt) (f g : Bool) (s : Wd), s.f < 0 → s.W = W → A.rk + B.rk ≤ k → RdF W N A f → RdF W N B g →
      ∃ s1, uni T k (A.top f) (B.top g) s = (((none, 0), e), s1) ∧ Sm s s1 (6 * (A.rk + B.rk) + GT)
  | k, nil, B, f, g, s, hf, hW, hk, hA, hB => by
    obtain ⟨s1, e1, m1⟩ := hT s hf hW
    have q : ∀ k, uni T k (nil.top f) (B.top g) = bnd T (fun n => rtn ((B.top g).map (Tr.res n), n)) (none, 0) := fun k => by cases k <;> rfl
    exact ⟨s1, by rw [q, bnd_no e1 he], m1.le (by omega)⟩
  | k, nd a kk x l r, nil, f, g, s, hf, hW, hk, hA, hB => by
    obtain ⟨s1, e1, m1⟩ := hT s hf hW
    have q : ∀ k, uni T k ((nd a kk x l r).top f) ((nil : Bt).top g) = bnd T (fun n => rtn (((nd a kk x l r).top f).map (Tr.res n), n)) (none, 0) := fun k => by cases k <;> rfl
    exact ⟨s1, by rw [q, bnd_no e1 he], m1.le (by omega)⟩
  | 0, nd _ _ _ _ _, nd _ _ _ _ _, _, _, _, _, _, hk, _, _ => by simp only [rk] at hk; omega
  | k + 1, nd a kk x l r, nd a2 k2 x2 l2 r2, f, g, s, hf, hW, hk, hA, hB => by
    have hk' : r.rk + 1 + (r2.rk + 1) ≤ k + 1 := hk
    by_cases hb : befE (k2, x2) (kk, x)
    · obtain ⟨⟨hl, hr⟩, sl, sr⟩ := hB.kids
      obtain ⟨s1, e1, m1⟩ := bra_at (s := s) (T := l2) hf (by rw [hW, hN]; exact hN6) (by rw [hW]; exact hl) (by rw [hW, hN]; exact sl)
      have f1 : s1.f < 0 := by rw [m1.ct.f]; exact hf
      obtain ⟨s2, e2, m2⟩ := tre_at (s := s1) (T := r2) f1 (by rw [m1.W, hW, hN]; exact hN6) (by rw [m1.W, hW]; exact hr) (by rw [m1.W, hW, hN]; exact sr)
      have f2 : s2.f < 0 := by rw [m2.ct.f]; exact f1
      obtain ⟨s3, e3, m3⟩ := uni_fail hN6 hN he hT k r2 (nd a kk x l r) false f s2 f2 (by rw [m2.W, m1.W, hW]) (by simp only [rk]; omega) ⟨hr, fun _ => sr⟩ hA
      refine ⟨s3, ?_, ((m1.trans m2).trans m3).le (by simp only [rk]; omega)⟩
      have hb2 : befE (Tr.ent ⟨a2, [k2, x2, l2.to, r2.to, (r2.rk : Int) + 1], g⟩) (Tr.ent ⟨a, [kk, x, l.to, r.to, (r.rk : Int) + 1], f⟩) := hb
      refine (congrFun (uni_yes (T := T) (k := k) hb2) s).trans ?_
      rw [show oat [k2, x2, l2.to, r2.to, (r2.rk : Int) + 1] 2 = l2.to from rfl, bnd_ok e1, show oat [k2, x2, l2.to, r2.to, (r2.rk : Int) + 1] 3 = r2.to from rfl, bnd_ok e2]
      exact bnd_no e3 he
    · obtain ⟨⟨hl, hr⟩, sl, sr⟩ := hA.kids
      obtain ⟨s1, e1, m1⟩ := bra_at (s := s) (T := l) hf (by rw [hW, hN]; exact hN6) (by rw [hW]; exact hl) (by rw [hW, hN]; exact sl)
      have f1 : s1.f < 0 := by rw [m1.ct.f]; exact hf
      obtain ⟨s2, e2, m2⟩ := tre_at (s := s1) (T := r) f1 (by rw [m1.W, hW, hN]; exact hN6) (by rw [m1.W, hW]; exact hr) (by rw [m1.W, hW, hN]; exact sr)
      have f2 : s2.f < 0 := by rw [m2.ct.f]; exact f1
      obtain ⟨s3, e3, m3⟩ := uni_fail hN6 hN he hT k r (nd a2 k2 x2 l2 r2) false g s2 f2 (by rw [m2.W, m1.W, hW]) (by simp only [rk]; omega) ⟨hr, fun _ => sr⟩ hB
      refine ⟨s3, ?_, ((m1.trans m2).trans m3).le (by simp only [rk]; omega)⟩
      have hb2 : ¬ befE (Tr.ent ⟨a2, [k2, x2, l2.to, r2.to, (r2.rk : Int) + 1], g⟩) (Tr.ent ⟨a, [kk, x, l.to, r.to, (r.rk : Int) + 1], f⟩) := hb
      refine (congrFun (uni_no (T := T) (k := k) hb2) s).trans ?_
      rw [show oat [kk, x, l.to, r.to, (r.rk : Int) + 1] 2 = l.to from rfl, bnd_ok e1, show oat [kk, x, l.to, r.to, (r.rk : Int) + 1] 3 = r.to from rfl, bnd_ok e2]
      exact bnd_no e3 he
end
section
variable {W bk : List Int} {N hA hB : Nat} {A B : Bt} {s : Wd}
theorem top_lef (k x : Int) : (nd 0 k x nil nil).top true = some (lef k x) := rfl
theorem lef_c (k x : Int) : (lef k x).c = [k, x, 0, 0, 1] := rfl
/-- Push where there is no room. -/
theorem push_no (h : Hp W N hA A hB B bk) (hsp : ¬ Space N (A.ads ++ B.ads) bk) (hf : s.f < 0) (hW : s.W = W) (k x : Int) : ∃ s1, Wd.rpush 0 (hA : Int) k x s = (((), 9), s1) ∧ Sm s s1 100 := by
  have hN : N ≤ 1000000 := by have := h.ro.n400; omega
  have hrk := h.rks
  obtain ⟨s1, e1, m1⟩ := hep_sm (s := s) h hf hW
  have f1 : s1.f < 0 := by rw [m1.ct.f]; exact hf
  have w1 : s1.W = W := by rw [m1.W, hW]
  obtain ⟨s2, e2, m2⟩ := tre_at (s := s1) (T := A) f1 (by rw [w1]; exact h.len6) (by rw [w1]; exact h.la) (by rw [w1, h.ro.len]; exact h.ro.sp.left)
  have f2 : s2.f < 0 := by rw [m2.ct.f]; exact f1
  have w2 : s2.W = W := by rw [m2.W, w1]
  have hT : ∀ s, s.f < 0 → s.W = W → ∃ s1, layF 0 (lef k x).c s = ((0, 9), s1) ∧ Sm s s1 3 := fun s hf hW => by
    obtain ⟨s1, e1, m1⟩ := take_no h.ro hsp hf hW
    refine ⟨s1, ?_, m1⟩
    unfold layF
    exact bnd_no e1 (by decide)
  obtain ⟨s3, e3, m3⟩ := uni_fail hN h.ro.len (by decide) hT 128 A (nd 0 k x nil nil) false true s2 f2 w2 (by simp only [rk]; omega) ⟨h.la, fun _ => h.ro.sp.left⟩ ⟨⟨0, k, x, rfl⟩, fun q => by cases q⟩
  refine ⟨s3, ?_, ((m1.trans m2).trans m3).le (by simp only [rk]; omega)⟩
  unfold Wd.rpush
  rw [bnd_ok e1, bnd_ok e2]
  rw [top_lef] at e3
  exact bnd_no e3 (by decide)
theorem sz_isW {W bk : List Int} {N hA hB : Nat} {A B : Bt} (h : Hp W N hA A hB B bk) : isW ((A.sz : Int) + 1) ∧ (A.sz : Int) ≤ 80 := by
  have := h.szs.1
  have := h.ro.n400
  exact ⟨⟨by omega, by omega⟩, by omega⟩
/-- Push. -/
theorem push_at (h : Hp W N hA A hB B bk) (hsp : Space N (A.ads ++ B.ads) bk) (hf : s.f < 0) (hW : s.W = W) {k x : Int} (hk : reK k = true) (hkw : isW k) (hx : isW x) :
    ∃ s1 M bk1, Wd.rpush 0 (hA : Int) k x s = (((), 0), s1) ∧ Hp s1.W N hA M hB B bk1 ∧ M.ens.Perm ((k, x) :: A.ens) ∧ Ct s s1 (16 + 6 * A.rk) 100 := by
  have hN : N ≤ 1000000 := by have := h.ro.n400; omega
  have hrk := h.rks
  have hh := h.hh
  have hl := h.ro.len
  obtain ⟨n, W1, bk1, ro1, c1, _, tk⟩ := take_yes h.ro hsp
  have hn := ro1.at_ n (by simp)
  have hnN := ro1.w0n
  obtain ⟨Wt, hWt⟩ : ∃ Wt, putW W1 n.toNat [k, x, 0, 0, 1] 5 = Wt := ⟨_, rfl⟩
  have lW1 : W1.length = N := ro1.len
  have lWt : Wt.length = N := by rw [← hWt, putW_len, lW1]
  have oWt : ∀ c, oat Wt c = if n.toNat ≤ c ∧ c < n.toNat + 5 then oat [k, x, 0, 0, 1] (c - n.toNat) else oat W1 c := fun c => by rw [← hWt]; exact putW_oat W1 n.toNat _ 5 (by omega) c
  have frt : Frm [n] W1 Wt := ⟨lWt.trans lW1.symm, fun c hc => by rw [oWt, if_neg (by have := hc n (by simp); omega)]⟩
  have hT : ∀ s, s.f < 0 → s.W = W → ∃ s1, layF 0 (lef k x).c s = ((n, 0), s1) ∧ s1.W = Wt ∧ Ct s s1 3 6 := fun s hf hW => by
    obtain ⟨s1, e1, w1, ct1⟩ := tk s hf hW
    obtain ⟨s2, e2, ct2, w2⟩ := putK_ct (s := s1) (by rw [ct1.f]; exact hf) (a := n.toNat) [k, x, 0, 0, 1] (by rw [w1, lW1]; exact hN) 5 (by rw [w1, lW1]; omega)
    refine ⟨s2, ?_, by rw [w2, w1, hWt], ct1.trans ct2⟩
    unfold layF
    rw [bnd_ok e1]
    rw [show ((n.toNat : Nat) : Int) = n by omega] at e2
    have e3 : putsU n (lef k x).c s1 = (((), 0), s2) := e2
    rw [bnd_ok e3]
    rfl
  have hs1 : Sp (A.ads ++ [n]) N := by
    refine (ro1.sp.sub ?_).perm List.perm_append_comm
    show ([n] ++ A.ads).Sublist ([n] ++ (A.ads ++ B.ads))
    exact (List.sublist_append_left _ _).append_left [n]
  have laW1 : A.Lay W1 := h.la.same (fun a ha i _ => c1 _ (by have := h.ro.at_ a (by simp [ha]); omega))
  have lbW1 : B.Lay W1 := h.lb.same (fun a ha i _ => c1 _ (by have := h.ro.at_ a (by simp [ha]); omega))
  have laWt : A.Lay Wt := laW1.frm frt hs1
  have lbWt : B.Lay Wt := lbW1.frm (N := N) frt (by
    refine (ro1.sp.sub ?_).perm List.perm_append_comm
    show ([n] ++ B.ads).Sublist ([n] ++ (A.ads ++ B.ads))
    exact (List.sublist_append_right _ _).append_left [n])
  have lnWt : (nd n k x nil nil).Lay Wt := by
    refine lay_cs.2 ⟨fun i hi => ?_, trivial, trivial⟩
    rw [oWt, if_pos (by omega), show n.toNat + i - n.toNat = i by omega]
    rfl
  obtain ⟨s1, e1, m1⟩ := hep_sm (s := s) h hf hW
  have f1 : s1.f < 0 := by rw [m1.ct.f]; exact hf
  have w1 : s1.W = W := by rw [m1.W, hW]
  obtain ⟨s2, e2, m2⟩ := tre_at (s := s1) (T := A) f1 (by rw [w1]; exact h.len6) (by rw [w1]; exact h.la) (by rw [w1, hl]; exact h.ro.sp.left)
  have f2 : s2.f < 0 := by rw [m2.ct.f]; exact f1
  have w2 : s2.W = W := by rw [m2.W, w1]
  have hrr : A.rk + (nd n k x nil nil).rk ≤ 128 := by simp only [rk]; omega
  obtain ⟨q, s3, e3, t3, c3, fr3, l3⟩ := uni_at (n := n) (Wt := Wt) hN hl lWt hT 128 A (nd 0 k x nil nil) false true s2 f2 w2 (by simp only [rk]; omega) (by omega) h.la ⟨0, k, x, rfl⟩ (by rw [rs_no]; exact laWt) lnWt (by rw [rs_no]; exact hs1)
  rw [rs_no] at t3 fr3 l3
  rw [top_lef] at e3
  have f3 : s3.f < 0 := by rw [c3.f]; exact f2
  change Tells q (mrg 128 A (nd n k x nil nil)) at t3
  change Frm (A.ads ++ [n]) Wt s3.W at fr3
  change (mrg 128 A (nd n k x nil nil)).Lay s3.W at l3
  obtain ⟨M, hM⟩ : ∃ M, mrg 128 A (nd n k x nil nil) = M := ⟨_, rfl⟩
  have pa : M.ads.Perm (A.ads ++ [n]) := hM ▸ mrg_ads 128 A _ hrr
  have pe : M.ens.Perm (A.ens ++ [(k, x)]) := hM ▸ mrg_ens 128 A _ hrr
  have pz : M.sz = A.sz + 1 := hM ▸ mrg_sz hrr
  have pk : M.ok := hM ▸ mrg_ok 128 A _ hrr h.oa ⟨trivial, trivial, Nat.le_refl _, fun p hp => by simp [ens] at hp⟩
  rw [hM] at t3 l3
  have szw := sz_isW h
  have kM : ∀ p ∈ M.ens, reK p.1 = true ∧ isW p.1 ∧ isW p.2 := fun p hp => by
    rcases List.mem_append.1 (pe.mem_iff.1 hp) with q | q
    · exact h.kw p (List.mem_append_left _ q)
    · simp at q
      subst q
      exact ⟨hk, hkw, hx⟩
  have wst : ∀ c, isW (oat Wt c) := frm_isW frt ro1.ws (fun a ha => ⟨by simp at ha; omega, fun i hi => by
    simp at ha
    subst ha
    rw [(lay_cs.1 lnWt).1 i hi]
    match i, hi with
    | 0, _ => exact hkw
    | 1, _ => exact hx
    | 2, _ => exact (⟨by decide, by decide⟩ : isW (0 : Int))
    | 3, _ => exact (⟨by decide, by decide⟩ : isW (0 : Int))
    | 4, _ => exact (⟨by decide, by decide⟩ : isW ((0 : Int) + 1))⟩)
  have ws3 : ∀ c, isW (oat s3.W c) := frm_isW fr3 wst (fun a ha => ⟨by have := hs1.at_ a ha; omega, lay_isW hN l3 (hs1.perm pa.symm) (by omega) (fun p hp => (kM p hp).2) a (pa.mem_iff.2 ha)⟩)
  have rot : Ro Wt N (n :: (A.ads ++ B.ads)) bk1 := ro1.frm (frt.mono (fun a ha => by simp at ha; simp [ha])) wst
  have ro3 : Ro s3.W N (n :: (A.ads ++ B.ads)) bk1 := rot.frm (fr3.mono (fun a ha => by
    rcases List.mem_append.1 ha with q | q
    · simp [q]
    · simp at q; simp [q])) ws3
  have hp3 : (n :: (A.ads ++ B.ads)).Perm (M.ads ++ B.ads) := by
    have z : (n :: (A.ads ++ B.ads)).Perm ((A.ads ++ [n]) ++ B.ads) := by
      rw [List.append_assoc]
      exact List.perm_middle.symm
    exact z.trans (pa.symm.append_right _)
  have low : ∀ c, 18 ≤ c → c < 22 → oat s3.W c = oat W c := fun c h1 h2 => by
    rw [fr3.2 c (fun a ha => by
      rcases List.mem_append.1 ha with q | q
      · have := h.ro.at_ a (by simp [q]); omega
      · simp at q; omega), frt.2 c (fun a ha => by simp at ha; omega)]
    exact c1 c h1
  have lb3 : B.Lay s3.W := lbWt.frm (N := N) fr3 (by
    have z := ro3.sp.perm (hp3.trans (pa.append_right _))
    exact z.perm List.perm_append_comm)
  obtain ⟨s4, e4, c4, l4, o4⟩ := bec_ct (s := s3) h f3 (fr3.1.trans (lWt.trans hl.symm)) ((low hA (by omega) (by omega)).trans h.ca) ((low (hA + 1) (by omega) (by omega)).trans h.ra) (M.sz : Int) M.to
  refine ⟨s4, M, bk1, ?_, h.become (M := M) (ro3.perm hp3) l4 (by rw [pz]; exact ⟨by omega, by omega⟩) o4 (low hB (by omega) (by omega)) (low (hB + 1) (by omega) (by omega)) l3 lb3 pk kM, pe.trans (List.perm_append_singleton _ _), ((((m1.ct.trans m2.ct).trans c3).trans c4)).le (by simp only [rk]; omega) (by simp only [rk]; omega)⟩
  unfold Wd.rpush
  rw [bnd_ok e1, bnd_ok e2, bnd_ok e3]
  dsimp only
  rw [t3.1, show uw ((A.sz : Int) + 1) = (M.sz : Int) by rw [uw_id szw.1, pz]; omega]
  exact e4
/-- Pop of no entry. -/
theorem pop_none (h : Hp W N hA nil hB B bk) (hf : s.f < 0) (hW : s.W = W) : ∃ s1, Wd.rpop 0 (hA : Int) s = ((none, 0), s1) ∧ Sm s s1 2 := by
  obtain ⟨s1, e1, m1⟩ := hep_sm (s := s) h hf hW
  refine ⟨s1, ?_, m1⟩
  unfold Wd.rpop
  rw [bnd_ok e1]
  rfl
/-- Pop. -/
theorem pop_at {a k x : Int} {l r : Bt} (h : Hp W N hA (nd a k x l r) hB B bk) (hf : s.f < 0) (hW : s.W = W) :
    ∃ s1, Wd.rpop 0 (hA : Int) s = ((some (k, x), 0), s1) ∧ Hp s1.W N hA (mrg 128 l r) hB B (a :: bk) ∧ Ct s s1 (18 + 6 * (l.rk + r.rk)) 200 := by
  have hN : N ≤ 1000000 := by have := h.ro.n400; omega
  have hrk := h.rks
  have hrk2 : r.rk + 1 ≤ 6 := hrk.1
  have hlk : l.rk ≤ 6 := by
    have z := rk_sz l h.oa.1
    have z2 := h.szs.1
    have z3 := h.ro.n400
    have z4 : (nd a k x l r).sz = l.sz + r.sz + 1 := rfl
    rcases Nat.lt_or_ge 6 l.rk with q | q
    · have : 2 ^ 7 ≤ 2 ^ l.rk := Nat.pow_le_pow_right (by omega) q
      omega
    · exact q
  have hh := h.hh
  have hl := h.ro.len
  have ha := h.ro.at_ a (by simp [ads])
  have hkw := h.kw (k, x) (by simp [ens])
  obtain ⟨s1, e1, m1⟩ := hep_sm (s := s) h hf hW
  have f1 : s1.f < 0 := by rw [m1.ct.f]; exact hf
  have w1 : s1.W = W := by rw [m1.W, hW]
  obtain ⟨s2, e2, m2⟩ := tre_at (s := s1) (T := nd a k x l r) f1 (by rw [w1]; exact h.len6) (by rw [w1]; exact h.la) (by rw [w1, hl]; exact h.ro.sp.left)
  have f2 : s2.f < 0 := by rw [m2.ct.f]; exact f1
  have w2 : s2.W = W := by rw [m2.W, w1]
  have hsA : Sp ([a] ++ (l.ads ++ r.ads)) N := h.ro.sp.left
  obtain ⟨s3, e3, c3, fr3, l3⟩ := mld_at (s := s2) hl hN f2 w2 (lay_cs.1 h.la).2.1 (lay_cs.1 h.la).2.2 hsA.right (by omega)
  have f3 : s3.f < 0 := by rw [c3.f]; exact f2
  obtain ⟨M, hM⟩ : ∃ M, mrg 128 l r = M := ⟨_, rfl⟩
  have hrr : l.rk + r.rk ≤ 128 := by omega
  have pa : M.ads.Perm (l.ads ++ r.ads) := hM ▸ mrg_ads 128 l r hrr
  have pe : M.ens.Perm (l.ens ++ r.ens) := hM ▸ mrg_ens 128 l r hrr
  have pz : M.sz = l.sz + r.sz := hM ▸ mrg_sz hrr
  have pk : M.ok := hM ▸ mrg_ok 128 l r hrr h.oa.1 h.oa.2.1
  rw [hM] at e3 l3 ⊢
  have kM : ∀ p ∈ M.ens, reK p.1 = true ∧ isW p.1 ∧ isW p.2 := fun p hp => h.kw p (by
    have := pe.mem_iff.1 hp
    rw [List.mem_append] at this
    simp only [ens, List.cons_append, List.mem_cons, List.mem_append]
    rcases this with q | q
    · exact .inr (.inl (.inl q))
    · exact .inr (.inl (.inr q)))
  have szw := sz_isW h
  have hz : (nd a k x l r).sz = l.sz + r.sz + 1 := rfl
  have fr3' : Frm ((nd a k x l r).ads ++ B.ads) W s3.W := fr3.mono (fun b hb => by
    rw [List.mem_append] at hb
    simp only [ads, List.cons_append, List.mem_cons, List.mem_append]
    rcases hb with q | q
    · exact .inr (.inl (.inl q))
    · exact .inr (.inl (.inr q)))
  have ws3 : ∀ c, isW (oat s3.W c) := frm_isW fr3 h.ro.ws (fun b hb => ⟨by have := hsA.right.at_ b hb; omega, lay_isW hN l3 (hsA.right.perm pa.symm) (by omega) (fun p hp => (kM p hp).2) b (pa.mem_iff.2 hb)⟩)
  have ro3 : Ro s3.W N ((nd a k x l r).ads ++ B.ads) bk := h.ro.frm fr3' ws3
  have low : ∀ c, c < 22 → oat s3.W c = oat W c := fun c hc => fr3.2 c (fun b hb => by have := h.ro.at_ b (by rw [List.mem_append] at hb; simp only [ads, List.cons_append, List.mem_cons, List.mem_append]; rcases hb with q | q; exact .inr (.inl (.inl (.inl q))); exact .inr (.inl (.inl (.inr q)))); omega)
  have hp3 : ((nd a k x l r).ads ++ B.ads).Perm (a :: (M.ads ++ B.ads)) := by
    show (a :: (l.ads ++ r.ads ++ B.ads)).Perm _
    exact (pa.symm.append_right _).cons a
  have lb3 : B.Lay s3.W := h.lb.frm (N := N) fr3 (by
    refine (h.ro.sp.sub ?_).perm List.perm_append_comm
    show (l.ads ++ r.ads ++ B.ads).Sublist (a :: (l.ads ++ r.ads ++ B.ads))
    exact List.sublist_cons_self _ _)
  obtain ⟨s4, e4, c4, l4, o4⟩ := bec_ct (s := s3) h f3 fr3.1 ((low hA (by omega)).trans h.ca) ((low (hA + 1) (by omega)).trans h.ra) (M.sz : Int) M.to
  have f4 : s4.f < 0 := by rw [c4.f]; exact f3
  have hi4 : ∀ c, 22 ≤ c ∨ c < 18 → oat s4.W c = oat s3.W c := fun c hc => by rw [o4, if_neg (by omega), if_neg (by omega)]
  have ro4 : Ro s4.W N (a :: (M.ads ++ B.ads)) bk := by
    refine (ro3.perm hp3).same l4 (fun c => ?_) (fun c hc => hi4 c (.inr hc)) (fun b hb => hi4 _ (.inl (by have := h.ro.at_ b (List.mem_append_right _ hb); omega)))
    rw [o4]
    split
    · exact ⟨by omega, by omega⟩
    · split
      · exact to_isW (P := []) (by rw [List.append_nil]; exact hsA.right.perm pa.symm) hN
      · exact ws3 c
  obtain ⟨s5, e5, ro5, o5, c5⟩ := give_ct (s := s4) ro4 f4 rfl
  have nodes : ∀ b ∈ M.ads ++ B.ads, ∀ i : Nat, i < 5 → oat s5.W (b.toNat + i) = oat s3.W (b.toNat + i) := fun b hb i hi => by
    have h1 := ro4.at_ b (by simp only [List.cons_append, List.mem_cons]; exact .inr (List.mem_append_left _ hb))
    have h2 := (List.nodup_cons.1 (List.nodup_append.1 ro4.nd).1).1
    have h3 : b ≠ a := fun e => h2 (e ▸ hb)
    rw [o5 _ (by omega) (by omega)]
    exact hi4 _ (.inl (by omega))
  have at5 : ∀ c, 18 ≤ c → c < 22 → oat s5.W c = oat s4.W c := fun c h1 h2 => o5 c h1 (by omega)
  refine ⟨s5, ?_, ⟨ro5, hh, by rw [at5 _ (by omega) (by omega), o4, if_pos rfl], by rw [at5 _ (by omega) (by omega), o4, if_neg (by omega), if_pos rfl], by rw [at5 _ (by omega) (by omega), o4, if_neg (by omega), if_neg (by omega), low _ (by omega)]; exact h.cb, by rw [at5 _ (by omega) (by omega), o4, if_neg (by omega), if_neg (by omega), low _ (by omega)]; exact h.rb, l3.same (fun b hb i hi => nodes b (List.mem_append_left _ hb) i hi), lb3.same (fun b hb i hi => nodes b (List.mem_append_right _ hb) i hi), pk, h.ob, fun p hp => ?_⟩, (((((m1.ct.trans m2.ct).trans c3).trans c4).trans c5)).le (by omega) (by omega)⟩
  · unfold Wd.rpop
    rw [bnd_ok e1]
    have ht0 : ¬ (nd a k x l r).to = 0 := by simp only [to]; omega
    show (if (nd a k x l r).to = 0 then rtn none else _) s1 = _
    rw [if_neg ht0, bnd_ok e2]
    show (if reK k = true then bnd (mldF l.to r.to) _ none else err none 340) s2 = _
    rw [if_pos hkw.1, bnd_ok e3]
    show bnd (becU (hA : Int) (((nd a k x l r).sz : Int), (nd a k x l r).to) (uw (((nd a k x l r).sz : Int) - 1)) M.to) _ none s3 = _
    rw [show uw (((nd a k x l r).sz : Int) - 1) = (M.sz : Int) by rw [uw_id ⟨by omega, by omega⟩, pz, hz]; omega, bnd_ok e4]
    show bnd (giveU 0 a 5) _ none s4 = _
    rw [bnd_ok e5]
    rfl
  · rcases List.mem_append.1 hp with q | q
    · exact kM p q
    · exact h.kw p (List.mem_append_right _ q)
end
end Go.Proofs.Ytalopkllldnipaa


/- Two heaps of one room: what stands is sound; First, Len, All and Clear (layer 24), pure. No statement of the seat is proved here. -/
namespace Go.Proofs.Ytalopkllldnipaa
open Go.RowKit Bt

namespace Bt
/-- The words that lead to its nodes. -/
def wds (T : Bt) : List Int := T.ads.map (· + 1)
theorem wds_nd (a k x : Int) (l r : Bt) : (nd a k x l r).wds = (a + 1) :: (l.wds ++ r.wds) := by simp [wds, ads]
theorem to_kd {P : List Int} {N : Nat} {T : Bt} (h : Sp (T.ads ++ P) N) : kd1 T.to = [] ∧ T = nil ∨ kd1 T.to = [T.to] := by
  rcases to_nn h with q | q
  · exact .inl ⟨by rw [q.1]; rfl, q.2⟩
  · exact .inr (if_neg (by omega))
end Bt
section
variable {W : List Int} {N : Nat}
/-- A node's cells. -/
theorem ndL_at (hl : W.length = N) (hN : N ≤ 1000000) {a k x : Int} {l r : Bt} (h : (nd a k x l r).Lay W) (ha : 18 ≤ a ∧ a + 5 ≤ (N : Int)) : okN W (a + 1) = true ∧ ndL W (a + 1) = [k, x, l.to, r.to, (r.rk : Int) + 1] := by
  have had : ∀ i : Nat, i < 5 → adN (a + 1) i = ((a.toNat + i : Nat) : Int) := fun i hi => by
    unfold adN
    rw [show uw (a + 1 - 1) = ((a.toNat : Nat) : Int) from nodeA_of (by omega) (by omega)]
    exact uw_add (by omega)
  refine ⟨okN_yes (fun i hi => by rw [had i hi, hl]; omega), ?_⟩
  obtain ⟨⟨c0, c1, c2, c3, c4⟩, _⟩ := h
  have e : ndL W (a + 1) = (List.range 5).map (fun i : Nat => oat W (a.toNat + i)) := by
    unfold ndL
    refine List.map_congr_left (fun i hi => ?_)
    rw [had i (by simpa using hi)]
    rfl
  rw [e, ← c0, ← c1, ← c2, ← c3, ← c4]
  rfl
theorem kdN_at (hl : W.length = N) (hN : N ≤ 1000000) {a k x : Int} {l r : Bt} (h : (nd a k x l r).Lay W) (ha : 18 ≤ a ∧ a + 5 ≤ (N : Int)) : kdN W (a + 1) = kd1 l.to ++ kd1 r.to ∧ enN W (a + 1) = (k, x) ∧ lfN W (a + 1) = l.to ∧ riN W (a + 1) = r.to ∧ oat (ndL W (a + 1)) 4 = (r.rk : Int) + 1 ∧ oat (ndL W (a + 1)) 0 = k := by
  have q := (ndL_at hl hN h ha).2
  unfold kdN enN lfN riN
  rw [q]
  exact ⟨rfl, rfl, rfl, rfl, rfl, rfl⟩
theorem rkN_at (hl : W.length = N) (hN : N ≤ 1000000) {T : Bt} (h : T.Lay W) (hs : Sp T.ads N) : rkN W T.to = (T.rk : Int) := by
  cases T with
  | nil => rfl
  | nd a k x l r =>
    have ha := hs.at_ a (by simp [ads])
    have q := (kdN_at hl hN h ⟨ha.1, ha.2.1⟩).2.2.2.2.1
    rw [(in_not (W := W) (x := (nd a k x l r).to) (by simp only [to]; omega)).2]
    exact q
/-- Of all nodes of a tree. -/
theorem all_nodes (hl : W.length = N) (hN : N ≤ 1000000) : ∀ {T : Bt}, T.Lay W → Sp T.ads N → T.ok → T.rk ≤ 1000 → T.sz ≤ 1000 → (∀ p ∈ T.ens, reK p.1 = true) → ∀ y ∈ T.wds, heN W y ∧ rkO W y ∧ ∀ z ∈ kdN W y, ¬ befE (enN W z) (enN W y)
  | nil, _, _, _, _, _, _, y, hy => by simp [wds, ads] at hy
  | nd a k x l r, h, hs, ho, hr, hz, hk, y, hy => by
    have ha := hs.at_ a (by simp [ads])
    have hs' : Sp ([a] ++ (l.ads ++ r.ads)) N := hs
    have ll := (lay_cs.1 h).2.1
    have lr := (lay_cs.1 h).2.2
    have hz' : l.sz + r.sz + 1 ≤ 1000 := hz
    have rl := rk_le_sz l
    have rr := rk_le_sz r
    rw [wds_nd] at hy
    rcases List.mem_cons.1 hy with rfl | hy
    · have q := kdN_at hl hN h ⟨ha.1, ha.2.1⟩
      refine ⟨⟨(ndL_at hl hN h ⟨ha.1, ha.2.1⟩).1, by rw [q.2.2.2.2.2]; exact hk (k, x) (by simp [ens])⟩, ⟨?_, ?_⟩, fun z hzz => ?_⟩
      · rw [q.2.2.1, q.2.2.2.1, rkN_at hl hN ll hs'.right.left, rkN_at hl hN lr hs'.right.right]
        have := ho.2.2.1
        omega
      · rw [q.2.2.2.2.1, q.2.2.2.1, rkN_at hl hN lr hs'.right.right, uw_id ⟨by omega, by omega⟩]
      · rw [q.1] at hzz
        rw [q.2.1]
        rcases List.mem_append.1 hzz with hzz | hzz
        · obtain ⟨rfl, h0⟩ := kd1_mem.1 hzz
          cases l with
          | nil => exact absurd rfl h0
          | nd b k2 x2 l2 r2 =>
            have hb := hs'.right.left.at_ b (by simp [ads])
            rw [show (nd b k2 x2 l2 r2).to = b + 1 from rfl, (kdN_at hl hN ll ⟨hb.1, hb.2.1⟩).2.1]
            exact ho.2.2.2 (k2, x2) (by simp [ens])
        · obtain ⟨rfl, h0⟩ := kd1_mem.1 hzz
          cases r with
          | nil => exact absurd rfl h0
          | nd b k2 x2 l2 r2 =>
            have hb := hs'.right.right.at_ b (by simp [ads])
            rw [show (nd b k2 x2 l2 r2).to = b + 1 from rfl, (kdN_at hl hN lr ⟨hb.1, hb.2.1⟩).2.1]
            exact ho.2.2.2 (k2, x2) (by simp [ens])
    · rcases List.mem_append.1 hy with hy | hy
      · exact all_nodes hl hN ll hs'.right.left ho.1 (by omega) (by omega) (fun p hp => hk p (by simp [ens, hp])) y hy
      · exact all_nodes hl hN lr hs'.right.right ho.2.1 (by omega) (by omega) (fun p hp => hk p (by simp [ens, hp])) y hy
theorem wds_perm (hl : W.length = N) (hN : N ≤ 1000000) : ∀ {T : Bt}, T.Lay W → Sp T.ads N → T.wds.Perm (kd1 T.to ++ T.wds.flatMap (kdN W))
  | nil, _, _ => .refl _
  | nd a k x l r, h, hs => by
    have ha := hs.at_ a (by simp [ads])
    have hs' : Sp ([a] ++ (l.ads ++ r.ads)) N := hs
    have pl := wds_perm hl hN (lay_cs.1 h).2.1 hs'.right.left
    have pr := wds_perm hl hN (lay_cs.1 h).2.2 hs'.right.right
    have e : kd1 (nd a k x l r).to = [a + 1] := if_neg (by simp only [to]; omega)
    rw [wds_nd, e, List.flatMap_cons, List.flatMap_append, (kdN_at hl hN h ⟨ha.1, ha.2.1⟩).1]
    refine ((pl.append pr).trans ?_).cons (a + 1)
    rw [List.append_assoc, List.append_assoc]
    refine List.Perm.append_left _ ?_
    rw [← List.append_assoc, ← List.append_assoc]
    exact List.perm_append_comm.append_right _
theorem wds_reach (hl : W.length = N) (hN : N ≤ 1000000) (r0 : Int) : ∀ {T : Bt}, T.Lay W → Sp T.ads N → (T.to ≠ 0 → Rch W r0 T.to) → ∀ y ∈ T.wds, Rch W r0 y
  | nil, _, _, _, y, hy => by simp [wds, ads] at hy
  | nd a k x l r, h, hs, h0, y, hy => by
    have ha := hs.at_ a (by simp [ads])
    have hs' : Sp ([a] ++ (l.ads ++ r.ads)) N := hs
    have hr := h0 (by simp only [to]; omega)
    have hkd := (kdN_at hl hN h ⟨ha.1, ha.2.1⟩).1
    rw [wds_nd] at hy
    rcases List.mem_cons.1 hy with rfl | hy
    · exact hr
    · rcases List.mem_append.1 hy with hy | hy
      · exact wds_reach hl hN r0 (lay_cs.1 h).2.1 hs'.right.left (fun q => .kid hr (by rw [show (nd a k x l r).to = a + 1 from rfl, hkd]; exact List.mem_append_left _ (kd1_mem.2 ⟨rfl, q⟩))) y hy
      · exact wds_reach hl hN r0 (lay_cs.1 h).2.2 hs'.right.right (fun q => .kid hr (by rw [show (nd a k x l r).to = a + 1 from rfl, hkd]; exact List.mem_append_right _ (kd1_mem.2 ⟨rfl, q⟩))) y hy
theorem wds_ens (hl : W.length = N) (hN : N ≤ 1000000) : ∀ {T : Bt}, T.Lay W → Sp T.ads N → T.wds.map (enN W) = T.ens
  | nil, _, _ => rfl
  | nd a k x l r, h, hs => by
    have ha := hs.at_ a (by simp [ads])
    have hs' : Sp ([a] ++ (l.ads ++ r.ads)) N := hs
    rw [wds_nd, List.map_cons, List.map_append, wds_ens hl hN (lay_cs.1 h).2.1 hs'.right.left, wds_ens hl hN (lay_cs.1 h).2.2 hs'.right.right, (kdN_at hl hN h ⟨ha.1, ha.2.1⟩).2.1]
    rfl
/-- A tree that lies is a sound heap. -/
theorem bt_snd (hl : W.length = N) (hN : N ≤ 1000000) {T : Bt} (h : T.Lay W) (hs : Sp T.ads N) (ho : T.ok) (hz : T.sz ≤ 1000) (hk : ∀ p ∈ T.ens, reK p.1 = true) : Snd W (T.sz : Int) T.to T.wds := by
  have q := all_nodes hl hN h hs ho (Nat.le_trans (rk_le_sz T) hz) hz hk
  refine ⟨fun y hy => ?_, ?_, wds_perm hl hN h hs, fun y hy => (q y hy).1, fun y hy => (q y hy).2, by unfold wds; rw [List.length_map, ads_sz], wds_reach hl hN T.to h hs (fun z => .root z)⟩
  · obtain ⟨a, ha, rfl⟩ := List.mem_map.1 hy
    have := hs.at_ a ha
    exact ⟨by omega, by omega⟩
  · unfold wds
    refine hs.nd.map _ (fun a b hab e => hab (by omega))
end
section
variable {W bk : List Int} {N hA hB : Nat} {A B : Bt} {s : Wd}
theorem Hp.isW (h : Hp W N hA A hB B bk) : ∀ x ∈ W, isW x := fun x hx => by
  obtain ⟨i, hi, e⟩ := List.mem_iff_getElem.1 hx
  have q := h.ro.ws i
  unfold oat at q
  rw [List.getElem?_eq_getElem hi] at q
  rw [← e]
  exact q
theorem Hp.heads (h : Hp W N hA A hB B bk) : inH W (hA : Int) ∧ cnH W (hA : Int) = A.sz ∧ rtH W (hA : Int) = A.to := by
  have hh := h.hh
  have hl := h.ro.len
  have h4 := h.ro.n40
  have e0 : uw ((hA : Int) + ((0 : Nat) : Int)) = ((hA + 0 : Nat) : Int) := uw_add (by omega)
  have e1 : uw ((hA : Int) + ((1 : Nat) : Int)) = ((hA + 1 : Nat) : Int) := uw_add (by omega)
  refine ⟨⟨by rw [e0, hl]; omega, by rw [e1, hl]; omega⟩, ?_, ?_⟩
  · unfold cnH
    rw [e0]
    exact h.ca
  · unfold rtH
    rw [e1]
    exact h.ra
theorem Hp.snd (h : Hp W N hA A hB B bk) : Snd W (cnH W (hA : Int)) (rtH W (hA : Int)) A.wds := by
  rw [h.heads.2.1, h.heads.2.2]
  exact bt_snd h.ro.len (by have := h.ro.n400; omega) h.la h.ro.sp.left h.oa (by have := h.szs.1; have := h.ro.n400; omega) (fun p hp => (h.kw p (List.mem_append_left _ hp)).1)
theorem Hp.ens (h : Hp W N hA A hB B bk) : A.wds.map (enN W) = A.ens := wds_ens h.ro.len (by have := h.ro.n400; omega) h.la h.ro.sp.left
/-- What All finds. -/
theorem allF_at (h : Hp W N hA A hB B bk) (hf : s.f < 0) (hW : s.W = W) : ∃ (L : List Int) (s1 : Wd), allF (hA : Int) s = ((L.map (ndT W), 0), s1) ∧ L.Perm A.wds ∧ s1.W = W ∧ s1.f < 0 := by
  obtain ⟨F, e, s1, q, l1, c1, z1, o1, i1⟩ := allF_lk h.isW (s := s) ⟨hW, hf⟩ (hA : Int)
  have hc := h.heads.2.1
  have he := i1 h.heads.1 (by rw [hc]; have := h.szs.1; have := h.ro.n400; omega) ⟨_, h.snd⟩
  subst he
  obtain ⟨_, L, rfl, hL⟩ := o1 rfl
  exact ⟨L, s1, q, hL.same h.snd, l1.1, l1.2⟩
theorem all_at (h : Hp W N hA A hB B bk) (hf : s.f < 0) (hW : s.W = W) : ∃ s1, Wd.rall (hA : Int) s = ((sortE A.ens, 0), s1) ∧ s1.W = W ∧ s1.f < 0 := by
  obtain ⟨L, s1, e1, hp, w1, f1⟩ := allF_at h hf hW
  refine ⟨s1, ?_, w1, f1⟩
  unfold Wd.rall
  rw [bnd_ok e1, List.map_map]
  have e : sortE (L.map (Tr.ent ∘ ndT W)) = sortE A.ens := by
    refine ord_unique _ _ ((sortE_perm _).trans (.trans ?_ (sortE_perm _).symm)) (sortE_ord _) (sortE_ord _)
    rw [← h.ens]
    exact hp.map _
  rw [e]
  rfl
theorem stands_at (h : Hp W N hA A hB B bk) : Fnd W (hA : Int) 1002 (sortE A.ens) := by
  have hc := h.heads.2.1
  have hsz := h.szs.1
  have h4 := h.ro.n400
  obtain ⟨l, e, s1, q, l1, c1, c2, c3⟩ := wild_all h.isW (s := ⟨W, 0, 0, -1, 0⟩) ⟨rfl, (by decide : (-1 : Int) < 0)⟩ (hA : Int) 1002 (fun _ => by rw [hc]; omega) (fun _ => by rw [hc]; omega)
  obtain ⟨s2, e2, _, _⟩ := all_at (s := ⟨W, 0, 0, -1, 0⟩) h (by decide : (-1 : Int) < 0) rfl
  rw [e2] at q
  simp only [Prod.mk.injEq] at q
  obtain ⟨⟨rfl, rfl⟩, _⟩ := q
  by_cases hex : ∃ O, Fnd W (hA : Int) 1002 O
  · obtain ⟨O, hO⟩ := hex
    rw [c2 O hO]
    exact hO
  · rcases (c3 hex).1 with z | z
    · cases z
    · cases z
theorem len_at (h : Hp W N hA A hB B bk) (hf : s.f < 0) (hW : s.W = W) : ∃ s1, Wd.rlen (hA : Int) s = (((A.sz : Int), 0), s1) ∧ Sm s s1 1 := by
  have hl := h.ro.len
  have h4 := h.ro.n40
  have hh := h.hh
  obtain ⟨s1, e1, m1⟩ := get_sm (s := s) hf (a := hA) (by rw [hW, hl]; omega)
  refine ⟨s1, ?_, m1⟩
  unfold Wd.rlen
  have e0 : uw ((hA : Int) + 0) = (hA : Int) := by rw [uw_id ⟨by omega, by omega⟩]; omega
  rw [e0, bnd_ok e1, hW, h.ca]
  rfl
/-- A tree's first entry. -/
def Bt.fst : Bt → Option (Int × Int)
  | nil => none
  | nd _ k x _ _ => some (k, x)
theorem first_at (h : Hp W N hA A hB B bk) (hf : s.f < 0) (hW : s.W = W) : ∃ s1, Wd.rfirst (hA : Int) s = ((A.fst, 0), s1) ∧ Sm s s1 3 := by
  have hl := h.ro.len
  have h4 := h.ro.n40
  have hh := h.hh
  obtain ⟨s1, e1, m1⟩ := get_sm (s := s) hf (a := hA + 1) (by rw [hW, hl]; omega)
  have f1 : s1.f < 0 := by rw [m1.ct.f]; exact hf
  have e0 : uw ((hA : Int) + 1) = ((hA + 1 : Nat) : Int) := uw_add (i := 1) (by omega)
  unfold Wd.rfirst
  rw [e0, bnd_ok e1, hW, h.ra]
  cases A with
  | nil => exact ⟨s1, rfl, m1.le (by omega)⟩
  | nd a k x l r =>
    have ha := h.ro.at_ a (by simp [ads])
    have hn := h.ro.w0n
    have hn4 := h.ro.n400
    have hkw := h.kw (k, x) (by simp [ens])
    obtain ⟨s2, e2, m2⟩ := gets_sm (s := s1) f1 (a := a.toNat) (by rw [m1.W, hW]; exact h.len6) 2 (by rw [m1.W, hW, hl]; omega)
    refine ⟨s2, ?_, (m1.trans m2).le (by omega)⟩
    show (if (nd a k x l r).to = 0 then rtn none else bnd (getsF (nodeA (nd a k x l r).to) 2) _ none) s1 = _
    rw [if_neg (by simp only [to]; omega), show (nd a k x l r).to = a + 1 from rfl, nodeA_of (by omega) (by omega)]
    have e3 : (List.range 2).map (fun i : Nat => oat s1.W (a.toNat + i)) = [k, x] := by
      rw [m1.W, hW, ← h.la.1.1, ← h.la.1.2.1]
      rfl
    rw [e3] at e2
    have e4 : getsF ((a.toNat : Nat) : Int) 2 s1 = _ := e2
    rw [bnd_ok e4]
    show (if reK k = true then rtn (some (k, x)) else err none 340) s2 = _
    rw [if_pos hkw.1]
    rfl
theorem gives_at {Q : List Int} : ∀ (L bk : List Int) (s : Wd), s.f < 0 → Ro s.W N (L ++ Q) bk → ∃ s1, givesU 0 L s = (((), 0), s1) ∧ Ro s1.W N Q (L.reverse ++ bk) ∧ (∀ c : Nat, 18 ≤ c → (∀ a ∈ L, (c : Int) ≠ a) → oat s1.W c = oat s.W c) ∧ s1.f < 0
  | [], bk, s, hf, h => ⟨s, rfl, h, fun _ _ _ => rfl, hf⟩
  | a :: L, bk, s, hf, h => by
    obtain ⟨s1, e1, ro1, o1, c1⟩ := give_ct (s := s) h hf rfl
    have f1 : s1.f < 0 := by rw [c1.f]; exact hf
    obtain ⟨s2, e2, ro2, o2, f2⟩ := gives_at L (a :: bk) s1 f1 ro1
    refine ⟨s2, ?_, by rw [List.reverse_cons, List.append_assoc]; exact ro2, fun c hc hn => ?_, f2⟩
    · unfold givesU
      rw [bnd_ok e1]
      exact e2
    · rw [o2 c hc (fun b hb => hn b (List.mem_cons_of_mem _ hb)), o1 c hc (hn a (by simp))]
/-- Clear. -/
theorem clear_at (h : Hp W N hA A hB B bk) (hf : s.f < 0) (hW : s.W = W) : ∃ s1 bk1, Wd.rclear 0 (hA : Int) s = (((A.sz : Int), 0), s1) ∧ Hp s1.W N hA nil hB B bk1 := by
  have hN : N ≤ 1000000 := by have := h.ro.n400; omega
  have hl := h.ro.len
  have hh := h.hh
  have h40 := h.ro.n40
  obtain ⟨L, s1, e1, hp, w1, f1⟩ := allF_at h hf hW
  have hat : (L.map (ndT W)).map Tr.at_ = L.map nodeA := by rw [List.map_map]; rfl
  have hwd : A.wds.map nodeA = A.ads := by
    unfold wds
    rw [List.map_map]
    refine (List.map_congr_left (fun a ha => ?_)).trans (List.map_id _)
    have := h.ro.at_ a (List.mem_append_left _ (List.mem_append_left _ ha))
    have := h.ro.w0n
    have := h.ro.n400
    show nodeA (a + 1) = a
    rw [nodeA_of (by omega) (by omega)]
    omega
  have hpa : (L.map nodeA).Perm A.ads := by rw [← hwd]; exact hp.map _
  have ro1 : Ro s1.W N (L.map nodeA ++ B.ads) bk := by rw [w1]; exact h.ro.perm (hpa.symm.append_right _)
  obtain ⟨s2, e2, ro2, o2, f2⟩ := gives_at (L.map nodeA) bk s1 f1 ro1
  have hlen : L.length = A.sz := by rw [hp.length_eq]; unfold wds; rw [List.length_map, ads_sz]
  have low : ∀ c, 18 ≤ c → c < 22 → oat s2.W c = oat W c := fun c h1 h2 => by
    rw [o2 c h1 (fun a ha => by have := ro1.at_ a (List.mem_append_left _ (List.mem_append_left _ ha)); omega), w1]
  have lb2 : B.Lay s2.W := h.lb.same (fun a ha i hi => by
    have q1 := ro1.at_ a (List.mem_append_left _ (List.mem_append_right _ ha))
    rw [o2 _ (by omega) (fun b hb e => by
      have q2 := ro1.at_ b (List.mem_append_left _ (List.mem_append_left _ hb))
      have q3 := (List.nodup_append.1 (List.nodup_append.1 ro1.nd).1).2.2 b hb a ha
      omega), w1])
  unfold Wd.rclear
  rw [bnd_ok e1, hat, bnd_ok e2]
  have l2 : s2.W.length = N := ro2.len
  cases L with
  | nil =>
    have hA0 : A.sz = 0 := by rw [← hlen]; rfl
    have hAn : A = nil := by
      cases A with
      | nil => rfl
      | nd => simp only [sz] at hA0; omega
    subst hAn
    exact ⟨s2, _, rfl, ⟨ro2, hh, by rw [low hA (by omega) (by omega)]; exact h.ca, by rw [low _ (by omega) (by omega)]; exact h.ra, by rw [low hB (by omega) (by omega)]; exact h.cb, by rw [low _ (by omega) (by omega)]; exact h.rb, trivial, lb2, trivial, h.ob, h.kw⟩⟩
  | cons y L =>
    obtain ⟨s3, e3, c3, w3⟩ := putK_ct (s := s2) f2 (a := hA) [0, 0] (by rw [l2]; exact hN) 2 (by rw [l2]; omega)
    have e4 : putsU (hA : Int) [0, 0] s2 = (((), 0), s3) := e3
    have o3 : ∀ c, oat s3.W c = if c = hA then 0 else if c = hA + 1 then 0 else oat s2.W c := fun c => by
      rw [w3, putW_oat _ _ _ _ (by rw [l2]; omega)]
      by_cases q : c = hA
      · rw [if_pos (by omega), if_pos q, show c - hA = 0 by omega]
        rfl
      · by_cases q2 : c = hA + 1
        · rw [if_pos (by omega), if_neg q, if_pos q2, show c - hA = 1 by omega]
          rfl
        · rw [if_neg (by omega), if_neg q, if_neg q2]
    refine ⟨s3, _, ?_, h.become (M := nil) (by rw [show (nil : Bt).ads = [] from rfl, List.nil_append]; exact ro2) (by rw [w3, putW_len]) ⟨by decide, by decide⟩ o3 (low hB (by omega) (by omega)) (low (hB + 1) (by omega) (by omega)) trivial lb2 trivial (fun p hp => by simp [Bt.ens] at hp)⟩
    show (if (y :: L).map (ndT W) = [] then rtn 0 else bnd (putsU (hA : Int) [0, 0]) _ 0) s2 = _
    rw [if_neg (by simp), bnd_ok e4]
    show (((((y :: L).map (ndT W)).length : Int), 0), s3) = _
    rw [List.length_map, hlen]
end
end Go.Proofs.Ytalopkllldnipaa
