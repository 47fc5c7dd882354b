/-
  No statement of the seat is proved here. (Several texts in one: RsA, RsB, RsC.)
-/
import Derived.Test.YtalopkllldnipaaRqM

/- Trees whose right ways are short, as plain data, and how two are put together (layer 24), pure. No statement of the seat is proved here. -/
namespace Go.Proofs.Ytalopkllldnipaa
open Go.RowKit

inductive Bt where
  | nil
  | nd (a k x : Int) (l r : Bt)
namespace Bt
def rk : Bt → Nat
  | nil => 0
  | nd _ _ _ _ r => r.rk + 1
def sz : Bt → Nat
  | nil => 0
  | nd _ _ _ l r => l.sz + r.sz + 1
/-- The word that leads to it. -/
def to : Bt → Int
  | nil => 0
  | nd a _ _ _ _ => a + 1
def ads : Bt → List Int
  | nil => []
  | nd a _ _ l r => a :: (l.ads ++ r.ads)
def ens : Bt → List (Int × Int)
  | nil => []
  | nd _ k x l r => (k, x) :: (l.ens ++ r.ens)
/-- No node is behind one below it, no right tree has the greater rank. -/
def ok : Bt → Prop
  | nil => True
  | nd _ k x l r => l.ok ∧ r.ok ∧ r.rk ≤ l.rk ∧ ∀ p ∈ l.ens ++ r.ens, ¬ befE p (k, x)
def bind (a k x : Int) (l r : Bt) : Bt := if l.rk < r.rk then nd a k x r l else nd a k x l r
def mrg : Nat → Bt → Bt → Bt
  | _, nil, b => b
  | _, nd a k x l r, nil => nd a k x l r
  | 0, nd _ _ _ _ _, nd _ _ _ _ _ => nil
  | n + 1, nd a k x l r, nd a2 k2 x2 l2 r2 => if befE (k2, x2) (k, x) then bind a2 k2 x2 l2 (mrg n r2 (nd a k x l r)) else bind a k x l (mrg n r (nd a2 k2 x2 l2 r2))
theorem bind_rk (a k x : Int) (l r : Bt) : (bind a k x l r).rk = min l.rk r.rk + 1 := by
  unfold bind
  split
  · simp only [rk]; omega
  · simp only [rk]; omega
theorem bind_to (a k x : Int) (l r : Bt) : (bind a k x l r).to = a + 1 := by unfold bind; split <;> rfl
theorem bind_ads (a k x : Int) (l r : Bt) : (bind a k x l r).ads.Perm (a :: (l.ads ++ r.ads)) := by
  unfold bind
  split
  · exact List.perm_append_comm.cons a
  · exact .refl _
theorem bind_ens (a k x : Int) (l r : Bt) : (bind a k x l r).ens.Perm ((k, x) :: (l.ens ++ r.ens)) := by
  unfold bind
  split
  · exact List.perm_append_comm.cons (k, x)
  · exact .refl _
theorem mrg_nil (n : Nat) (b : Bt) : mrg n nil b = b := by cases n <;> rfl
theorem mrg_nil2 (n : Nat) (a : Bt) : mrg n a nil = a := by
  cases a with
  | nil => cases n <;> rfl
  | nd => cases n <;> rfl
theorem mrg_yes {n : Nat} {a k x a2 k2 x2 : Int} {l r l2 r2 : Bt} (h : befE (k2, x2) (k, x)) : mrg (n + 1) (nd a k x l r) (nd a2 k2 x2 l2 r2) = bind a2 k2 x2 l2 (mrg n r2 (nd a k x l r)) := if_pos h
theorem mrg_no {n : Nat} {a k x a2 k2 x2 : Int} {l r l2 r2 : Bt} (h : ¬ befE (k2, x2) (k, x)) : mrg (n + 1) (nd a k x l r) (nd a2 k2 x2 l2 r2) = bind a k x l (mrg n r (nd a2 k2 x2 l2 r2)) := if_neg h
theorem mrg_rk : ∀ (n : Nat) (a b : Bt), (mrg n a b).rk ≤ a.rk + b.rk
  | n, nil, b => by rw [mrg_nil]; omega
  | n, nd a k x l r, nil => by rw [mrg_nil2]; omega
  | 0, nd _ _ _ _ _, nd _ _ _ _ _ => Nat.zero_le _
  | n + 1, nd a k x l r, nd a2 k2 x2 l2 r2 => by
    by_cases h : befE (k2, x2) (k, x)
    · rw [mrg_yes h, bind_rk]
      have := mrg_rk n r2 (nd a k x l r)
      simp only [rk] at this ⊢
      omega
    · rw [mrg_no h, bind_rk]
      have := mrg_rk n r (nd a2 k2 x2 l2 r2)
      simp only [rk] at this ⊢
      omega
theorem mrg_ens : ∀ (n : Nat) (a b : Bt), a.rk + b.rk ≤ n → (mrg n a b).ens.Perm (a.ens ++ b.ens)
  | n, nil, b, _ => by rw [mrg_nil]; exact .refl _
  | n, nd a k x l r, nil, _ => by rw [mrg_nil2]; simp [ens]
  | 0, nd _ _ _ _ _, nd _ _ _ _ _, h => by simp only [rk] at h; omega
  | n + 1, nd a k x l r, nd a2 k2 x2 l2 r2, hr => by
    by_cases h : befE (k2, x2) (k, x)
    · rw [mrg_yes h]
      have q := mrg_ens n r2 (nd a k x l r) (by simp only [rk] at hr ⊢; omega)
      refine (bind_ens ..).trans ?_
      refine (((q.append_left l2.ens).cons (k2, x2)).trans ?_).trans List.perm_append_comm
      rw [← List.append_assoc]
      exact .refl _
    · rw [mrg_no h]
      have q := mrg_ens n r (nd a2 k2 x2 l2 r2) (by simp only [rk] at hr ⊢; omega)
      refine (bind_ens ..).trans ?_
      refine ((q.append_left l.ens).cons (k, x)).trans ?_
      rw [← List.append_assoc]
      exact .refl _
theorem mrg_ads : ∀ (n : Nat) (a b : Bt), a.rk + b.rk ≤ n → (mrg n a b).ads.Perm (a.ads ++ b.ads)
  | n, nil, b, _ => by rw [mrg_nil]; exact .refl _
  | n, nd a k x l r, nil, _ => by rw [mrg_nil2]; simp [ads]
  | 0, nd _ _ _ _ _, nd _ _ _ _ _, h => by simp only [rk] at h; omega
  | n + 1, nd a k x l r, nd a2 k2 x2 l2 r2, hr => by
    by_cases h : befE (k2, x2) (k, x)
    · rw [mrg_yes h]
      have q := mrg_ads n r2 (nd a k x l r) (by simp only [rk] at hr ⊢; omega)
      refine (bind_ads ..).trans ?_
      refine (((q.append_left l2.ads).cons a2).trans ?_).trans List.perm_append_comm
      rw [← List.append_assoc]
      exact .refl _
    · rw [mrg_no h]
      have q := mrg_ads n r (nd a2 k2 x2 l2 r2) (by simp only [rk] at hr ⊢; omega)
      refine (bind_ads ..).trans ?_
      refine ((q.append_left l.ads).cons a).trans ?_
      rw [← List.append_assoc]
      exact .refl _
theorem bind_ok {a k x : Int} {l r : Bt} (hl : l.ok) (hr : r.ok) (h : ∀ p ∈ l.ens ++ r.ens, ¬ befE p (k, x)) : (bind a k x l r).ok := by
  unfold bind
  split
  · exact ⟨hr, hl, by omega, fun p hp => h p (List.perm_append_comm.mem_iff.1 hp)⟩
  · exact ⟨hl, hr, by omega, h⟩
theorem bef_trans {p q r : Int × Int} (h1 : ¬ befE p q) (h2 : ¬ befE q r) : ¬ befE p r := by unfold befE at *; omega
theorem bef_not {p q : Int × Int} (h : befE p q) : ¬ befE q p := by unfold befE at *; omega
theorem ok_top {a k x : Int} {l r : Bt} (h : (nd a k x l r).ok) : ∀ p ∈ (nd a k x l r).ens, ¬ befE p (k, x) := by
  intro p hp
  rcases List.mem_cons.1 hp with rfl | hp
  · unfold befE; omega
  · exact h.2.2.2 p hp
theorem mrg_ok : ∀ (n : Nat) (a b : Bt), a.rk + b.rk ≤ n → a.ok → b.ok → (mrg n a b).ok
  | n, nil, b, _, _, h => by rw [mrg_nil]; exact h
  | n, nd a k x l r, nil, _, h, _ => by rw [mrg_nil2]; exact h
  | 0, nd _ _ _ _ _, nd _ _ _ _ _, h, _, _ => by simp only [rk] at h; omega
  | n + 1, nd a k x l r, nd a2 k2 x2 l2 r2, hr, h1, h2 => by
    by_cases h : befE (k2, x2) (k, x)
    · rw [mrg_yes h]
      have hk : r2.rk + (nd a k x l r).rk ≤ n := by simp only [rk] at hr ⊢; omega
      refine bind_ok h2.1 (mrg_ok n _ _ hk h2.2.1 h1) (fun p hp => ?_)
      rcases List.mem_append.1 hp with hp | hp
      · exact h2.2.2.2 p (List.mem_append_left _ hp)
      · rcases List.mem_append.1 ((mrg_ens n _ _ hk).mem_iff.1 hp) with hp | hp
        · exact h2.2.2.2 p (List.mem_append_right _ hp)
        · exact bef_trans (ok_top h1 p hp) (bef_not h)
    · rw [mrg_no h]
      have hk : r.rk + (nd a2 k2 x2 l2 r2).rk ≤ n := by simp only [rk] at hr ⊢; omega
      refine bind_ok h1.1 (mrg_ok n _ _ hk h1.2.1 h2) (fun p hp => ?_)
      rcases List.mem_append.1 hp with hp | hp
      · exact h1.2.2.2 p (List.mem_append_left _ hp)
      · rcases List.mem_append.1 ((mrg_ens n _ _ hk).mem_iff.1 hp) with hp | hp
        · exact h1.2.2.2 p (List.mem_append_right _ hp)
        · exact bef_trans (ok_top h2 p hp) h
/-- Right ways are short. -/
theorem rk_sz : ∀ (T : Bt), T.ok → 2 ^ T.rk ≤ T.sz + 1
  | nil, _ => by simp [rk, sz]
  | nd a k x l r, h => by
    have h1 := rk_sz l h.1
    have h2 := rk_sz r h.2.1
    have h3 : 2 ^ r.rk ≤ 2 ^ l.rk := Nat.pow_le_pow_right (by omega) h.2.2.1
    simp only [rk, sz, Nat.pow_succ]
    omega
theorem ads_sz : ∀ (T : Bt), T.ads.length = T.sz
  | nil => rfl
  | nd a k x l r => by simp only [ads, sz, List.length_cons, List.length_append, ads_sz l, ads_sz r]
theorem ens_sz : ∀ (T : Bt), T.ens.length = T.sz
  | nil => rfl
  | nd a k x l r => by simp only [ens, sz, List.length_cons, List.length_append, ens_sz l, ens_sz r]
theorem mrg_sz {n : Nat} {a b : Bt} (h : a.rk + b.rk ≤ n) : (mrg n a b).sz = a.sz + b.sz := by
  rw [← ens_sz, (mrg_ens n a b h).length_eq, List.length_append, ens_sz, ens_sz]

/-- It lies so in words. -/
def Lay (W : List Int) : Bt → Prop
  | nil => True
  | nd a k x l r => (oat W a.toNat = k ∧ oat W (a.toNat + 1) = x ∧ oat W (a.toNat + 2) = l.to ∧ oat W (a.toNat + 3) = r.to ∧ oat W (a.toNat + 4) = (r.rk : Int) + 1) ∧ l.Lay W ∧ r.Lay W
theorem Lay.same {W W' : List Int} : ∀ {T : Bt}, T.Lay W → (∀ a ∈ T.ads, ∀ i : Nat, i < 5 → oat W' (a.toNat + i) = oat W (a.toNat + i)) → T.Lay W'
  | nil, _, _ => trivial
  | nd a k x l r, h, hs => by
    obtain ⟨⟨c0, c1, c2, c3, c4⟩, h1, h2⟩ := h
    have q := hs a (by simp [ads])
    refine ⟨⟨(q 0 (by omega)).trans c0, (q 1 (by omega)).trans c1, (q 2 (by omega)).trans c2, (q 3 (by omega)).trans c3, (q 4 (by omega)).trans c4⟩, h1.same (fun b hb => hs b (by simp [ads, hb])), h2.same (fun b hb => hs b (by simp [ads, hb]))⟩
end Bt
end Go.Proofs.Ytalopkllldnipaa


/- Two trees put together in words: what is got and put (layer 24), pure. No statement of the seat is proved here. -/
namespace Go.Proofs.Ytalopkllldnipaa
open Go.RowKit

/-- From one state to another one by so many gets and puts at most. -/
structure Ct (s s1 : Wd) (G P : Nat) : Prop where
  f : s1.f = s.f
  g : 0 ≤ s.g → s.g + G < 4611686018427387904 → s.g ≤ s1.g ∧ s1.g ≤ s.g + G
  p : 0 ≤ s.p → s.p + P < 4611686018427387904 → s.p ≤ s1.p ∧ s1.p ≤ s.p + P
theorem Ct.refl (s : Wd) : Ct s s 0 0 := ⟨rfl, fun _ _ => by omega, fun _ _ => by omega⟩
theorem Ct.trans {s s1 s2 : Wd} {G P G2 P2 : Nat} (h1 : Ct s s1 G P) (h2 : Ct s1 s2 G2 P2) : Ct s s2 (G + G2) (P + P2) :=
  ⟨h2.f.trans h1.f, fun a b => by have q := h1.g a (by omega); have q2 := h2.g (by omega) (by omega); omega, fun a b => by have q := h1.p a (by omega); have q2 := h2.p (by omega) (by omega); omega⟩
theorem Ct.le {s s1 : Wd} {G P G2 P2 : Nat} (h : Ct s s1 G P) (hG : G ≤ G2) (hP : P ≤ P2) : Ct s s1 G2 P2 :=
  ⟨h.f, fun a b => by have q := h.g a (by omega); omega, fun a b => by have q := h.p a (by omega); omega⟩
structure Sm (s s1 : Wd) (G : Nat) : Prop where
  W : s1.W = s.W
  ct : Ct s s1 G 0
theorem Sm.refl (s : Wd) : Sm s s 0 := ⟨rfl, .refl s⟩
theorem Sm.trans {s s1 s2 : Wd} {G G2 : Nat} (h1 : Sm s s1 G) (h2 : Sm s1 s2 G2) : Sm s s2 (G + G2) := ⟨h2.W.trans h1.W, h1.ct.trans h2.ct⟩
theorem Sm.le {s s1 : Wd} {G G2 : Nat} (h : Sm s s1 G) (hG : G ≤ G2) : Sm s s1 G2 := ⟨h.W, h.ct.le hG (Nat.le_refl _)⟩
theorem gt_sm (s : Wd) : Sm s s.gt 1 := ⟨rfl, rfl, fun a b => by
  have e : s.gt.g = s.g + 1 := iw_id (by omega) (by omega)
  omega, fun _ _ => by have e : s.gt.p = s.p := rfl; omega⟩
theorem pt_ct (s : Wd) (W : List Int) : Ct s { s.pt with W := W } 0 1 := ⟨rfl, fun _ _ => by have e : ({ s.pt with W := W } : Wd).g = s.g := rfl; omega, fun a b => by
  have e : ({ s.pt with W := W } : Wd).p = s.p + 1 := iw_id (by omega) (by omega)
  omega⟩
theorem get_sm {s : Wd} (hf : s.f < 0) {a : Nat} (h : a < s.W.length) : ∃ s1, s.get (a : Int) = ((oat s.W a, 0), s1) ∧ Sm s s1 1 := by
  refine ⟨s.gt, ?_, gt_sm s⟩
  rw [get_no hf, if_neg (by omega)]
  rfl
theorem put_ct {s : Wd} (hf : s.f < 0) {a : Nat} (h : a < s.W.length) (x : Int) : ∃ s1, s.put (a : Int) x = (0, s1) ∧ s1.W = s.W.set a x ∧ Ct s s1 0 1 := by
  refine ⟨{ s.pt with W := s.W.set a x }, ?_, rfl, pt_ct s _⟩
  rw [put_no hf, if_neg (by omega)]
  rfl
theorem uw_nat {a : Nat} (h : a < 18446744073709551616) : uw (a : Int) = (a : Int) := uw_id ⟨by omega, by omega⟩
theorem uw_add {a i : Nat} (h : a + i < 18446744073709551616) : uw ((a : Int) + (i : Int)) = ((a + i : Nat) : Int) := by rw [uw_id ⟨by omega, by omega⟩]; omega
theorem oat_set (l : List Int) (i j : Nat) (x : Int) : oat (l.set i x) j = if i = j ∧ j < l.length then x else oat l j := by
  unfold oat
  rw [List.getElem?_set]
  by_cases h : i = j
  · subst h
    by_cases h2 : i < l.length
    · simp [h2]
    · simp [h2]
  · simp [h]
theorem gets_sm {s : Wd} (hf : s.f < 0) {a : Nat} (hl : s.W.length ≤ 1000000) : ∀ (n : Nat), a + n ≤ s.W.length → ∃ s1, getK (a : Int) s n = (((List.range n).map (fun i : Nat => oat s.W (a + i)), 0), s1) ∧ Sm s s1 n
  | 0, _ => ⟨s, rfl, .refl s⟩
  | n + 1, h => by
    obtain ⟨s1, e1, h1⟩ := gets_sm (a := a) hf hl n (by omega)
    obtain ⟨s2, e2, h2⟩ := get_sm (s := s1) (by rw [h1.ct.f]; exact hf) (a := a + n) (by rw [h1.W]; omega)
    refine ⟨s2, ?_, h1.trans h2⟩
    rw [getK_bnd, bnd_ok e1, uw_add (a := a) (i := n) (by omega), bnd_ok e2, List.range_succ, List.map_append, h1.W]
    rfl
/-- These words, put from one cell on. -/
def putW (W : List Int) (a : Nat) (l : List Int) : Nat → List Int
  | 0 => W
  | n + 1 => (putW W a l n).set (a + n) (oat l n)
theorem putW_len (W : List Int) (a : Nat) (l : List Int) : ∀ n, (putW W a l n).length = W.length
  | 0 => rfl
  | n + 1 => by show ((putW W a l n).set _ _).length = _; rw [List.length_set]; exact putW_len W a l n
theorem putW_oat (W : List Int) (a : Nat) (l : List Int) : ∀ n, a + n ≤ W.length → ∀ c, oat (putW W a l n) c = if a ≤ c ∧ c < a + n then oat l (c - a) else oat W c
  | 0, _, c => by rw [if_neg (by omega)]; rfl
  | n + 1, h, c => by
    show oat ((putW W a l n).set (a + n) (oat l n)) c = _
    rw [oat_set, putW_oat W a l n (by omega) c, putW_len]
    by_cases hc : a + n = c
    · rw [if_pos ⟨hc, by omega⟩, if_pos (by omega), show c - a = n by omega]
    · rw [if_neg (by omega)]
      by_cases hd : a ≤ c ∧ c < a + n
      · rw [if_pos hd, if_pos (by omega)]
      · rw [if_neg hd, if_neg (by omega)]
theorem putK_ct {s : Wd} (hf : s.f < 0) {a : Nat} (l : List Int) (hl : s.W.length ≤ 1000000) : ∀ (n : Nat), a + n ≤ s.W.length → ∃ s1, putKU (a : Int) l n s = (((), 0), s1) ∧ Ct s s1 0 n ∧ s1.W = putW s.W a l n
  | 0, _ => ⟨s, rfl, .refl s, rfl⟩
  | n + 1, h => by
    obtain ⟨s1, e1, h1, w1⟩ := putK_ct (a := a) hf l hl n (by omega)
    obtain ⟨s2, e2, w2, h2⟩ := put_ct (s := s1) (by rw [h1.f]; exact hf) (a := a + n) (by rw [w1, putW_len]; omega) (oat l n)
    refine ⟨s2, ?_, h1.trans h2, by rw [w2, w1]; rfl⟩
    rw [putK_bnd, bnd_ok e1, uw_add (a := a) (i := n) (by omega)]
    unfold putU
    rw [e2]
theorem chgK_ct {s : Wd} (hf : s.f < 0) {a : Nat} (o l : List Int) (hl : s.W.length ≤ 1000000) : ∀ (n : Nat), a + n ≤ s.W.length → (∀ i, i < n → oat o i = oat s.W (a + i)) → ∃ s1, chgKU (a : Int) o l n s = (((), 0), s1) ∧ Ct s s1 0 n ∧ s1.W.length = s.W.length ∧ ∀ c, oat s1.W c = if a ≤ c ∧ c < a + n then oat l (c - a) else oat s.W c
  | 0, _, _ => ⟨s, rfl, .refl s, rfl, fun c => by rw [if_neg (by omega)]⟩
  | n + 1, h, ho => by
    obtain ⟨s1, e1, h1, l1, c1⟩ := chgK_ct (a := a) hf o l hl n (by omega) (fun i hi => ho i (by omega))
    by_cases he : oat l n = oat o n
    · refine ⟨s1, ?_, h1.le (Nat.le_refl _) (by omega), l1, fun c => ?_⟩
      · rw [chgK_bnd, bnd_ok e1, if_pos he]
        rfl
      · rw [c1 c]
        by_cases hc : a + n = c
        · rw [if_neg (by omega), if_pos (by omega), show c - a = n by omega, he, ho n (by omega), hc]
        · by_cases hd : a ≤ c ∧ c < a + n
          · rw [if_pos hd, if_pos (by omega)]
          · rw [if_neg hd, if_neg (by omega)]
    · obtain ⟨s2, e2, w2, h2⟩ := put_ct (s := s1) (by rw [h1.f]; exact hf) (a := a + n) (by rw [l1]; omega) (oat l n)
      refine ⟨s2, ?_, h1.trans h2, by rw [w2, List.length_set, l1], fun c => ?_⟩
      · rw [chgK_bnd, bnd_ok e1, if_neg he, uw_add (a := a) (i := n) (by omega)]
        unfold putU
        rw [e2]
      · rw [w2, oat_set, c1 c]
        by_cases hc : a + n = c
        · rw [if_pos ⟨hc, by rw [l1]; omega⟩, if_pos (by omega), show c - a = n by omega]
        · rw [if_neg (by omega)]
          by_cases hd : a ≤ c ∧ c < a + n
          · rw [if_pos hd, if_pos (by omega)]
          · rw [if_neg hd, if_neg (by omega)]

/-- All cells but those of these nodes are as they were. -/
def Frm (P : List Int) (W W' : List Int) : Prop := W'.length = W.length ∧ ∀ c : Nat, (∀ a ∈ P, ¬ (a ≤ (c : Int) ∧ (c : Int) < a + 5)) → oat W' c = oat W c
theorem Frm.refl (P W : List Int) : Frm P W W := ⟨rfl, fun _ _ => rfl⟩
theorem Frm.trans {P W W1 W2 : List Int} (h1 : Frm P W W1) (h2 : Frm P W1 W2) : Frm P W W2 := ⟨h2.1.trans h1.1, fun c hc => (h2.2 c hc).trans (h1.2 c hc)⟩
theorem Frm.mono {P Q W W1 : List Int} (h : Frm P W W1) (hs : ∀ a ∈ P, a ∈ Q) : Frm Q W W1 := ⟨h.1, fun c hc => h.2 c (fun a ha => hc a (hs a ha))⟩
/-- Nodes' places. -/
structure Sp (P : List Int) (N : Nat) : Prop where
  nd : P.Nodup
  at_ : ∀ a ∈ P, 18 ≤ a ∧ a + 5 ≤ (N : Int) ∧ a % 5 = 2
theorem Sp.perm {P Q : List Int} {N : Nat} (h : Sp P N) (p : P.Perm Q) : Sp Q N := ⟨p.nodup_iff.1 h.nd, fun a ha => h.at_ a (p.mem_iff.2 ha)⟩
theorem Sp.left {P Q : List Int} {N : Nat} (h : Sp (P ++ Q) N) : Sp P N := ⟨(List.nodup_append.1 h.nd).1, fun a ha => h.at_ a (List.mem_append_left _ ha)⟩
theorem Sp.right {P Q : List Int} {N : Nat} (h : Sp (P ++ Q) N) : Sp Q N := ⟨(List.nodup_append.1 h.nd).2.1, fun a ha => h.at_ a (List.mem_append_right _ ha)⟩
theorem Sp.apart {P Q : List Int} {N : Nat} (h : Sp (P ++ Q) N) {a b : Int} (ha : a ∈ P) (hb : b ∈ Q) {i : Nat} (hi : i < 5) : ¬ (b ≤ ((a.toNat + i : Nat) : Int) ∧ ((a.toNat + i : Nat) : Int) < b + 5) := by
  have q := (List.nodup_append.1 h.nd).2.2 a ha b hb
  have h1 := h.at_ a (List.mem_append_left _ ha)
  have h2 := h.at_ b (List.mem_append_right _ hb)
  omega
namespace Bt
/-- Cells that a frame leaves. -/
theorem Lay.frm {W W' P : List Int} {N : Nat} {T : Bt} (h : T.Lay W) (hf : Frm P W W') (hs : Sp (T.ads ++ P) N) : T.Lay W' :=
  h.same (fun _ ha _ hi => hf.2 _ (fun _ hb => hs.apart ha hb hi))
def cs : Bt → List Int
  | nil => []
  | nd _ k x l r => [k, x, l.to, r.to, (r.rk : Int) + 1]
def top (f : Bool) : Bt → Option Tr
  | nil => none
  | nd a k x l r => some ⟨a, [k, x, l.to, r.to, (r.rk : Int) + 1], f⟩
def rs (n : Int) (f : Bool) : Bt → Bt
  | nil => nil
  | nd a k x l r => nd (if f = true then n else a) k x l r
def lone (T : Bt) : Prop := ∃ a k x, T = nd a k x nil nil
theorem lay_cs {W : List Int} {a k x : Int} {l r : Bt} : (nd a k x l r).Lay W ↔ (∀ i : Nat, i < 5 → oat W (a.toNat + i) = oat (nd a k x l r).cs i) ∧ l.Lay W ∧ r.Lay W := by
  constructor
  · rintro ⟨⟨c0, c1, c2, c3, c4⟩, h⟩
    refine ⟨fun i hi => ?_, h⟩
    match i, hi with
    | 0, _ => exact c0
    | 1, _ => exact c1
    | 2, _ => exact c2
    | 3, _ => exact c3
    | 4, _ => exact c4
  · rintro ⟨c, h⟩
    exact ⟨⟨c 0 (by omega), c 1 (by omega), c 2 (by omega), c 3 (by omega), c 4 (by omega)⟩, h⟩
theorem rs_no (n : Int) (T : Bt) : T.rs n false = T := by cases T <;> rfl
theorem rs_rk (n : Int) (f : Bool) (T : Bt) : (T.rs n f).rk = T.rk := by cases T <;> rfl
theorem to_nn {P : List Int} {N : Nat} {T : Bt} (h : Sp (T.ads ++ P) N) : T.to = 0 ∧ T = nil ∨ 19 ≤ T.to ∧ T.to + 4 ≤ N := by
  cases T with
  | nil => exact .inl ⟨rfl, rfl⟩
  | nd a k x l r =>
    have := h.at_ a (by simp [ads])
    exact .inr (by simp only [to]; omega)
end Bt
open Bt
theorem nodeA_of {a : Int} (h0 : 0 ≤ a) (h1 : a < 1000000) : nodeA (a + 1) = ((a.toNat : Nat) : Int) := by
  unfold nodeA
  rw [show a + 1 - 1 = a by omega, uw_id ⟨by omega, by omega⟩]
  omega
theorem tre_at {s : Wd} {T : Bt} (hf : s.f < 0) (hl : s.W.length ≤ 1000000) (h : T.Lay s.W) (hs : Sp T.ads s.W.length) : ∃ s1, treF T.to s = ((T.top false, 0), s1) ∧ Sm s s1 5 := by
  cases T with
  | nil => exact ⟨s, rfl, (Sm.refl s).le (by omega)⟩
  | nd a k x l r =>
    have ha := hs.at_ a (by simp [ads])
    obtain ⟨s1, e1, h1⟩ := gets_sm hf (a := a.toNat) hl 5 (by omega)
    refine ⟨s1, ?_, h1⟩
    unfold treF
    rw [if_neg (show ¬ (nd a k x l r).to = 0 by simp only [to]; omega)]
    show bnd (getsF (nodeA (a + 1)) 5) (fun l => rtn (some (⟨nodeA (a + 1), l, false⟩ : Tr))) none s = _
    rw [nodeA_of (by omega) (by omega)]
    have e2 : getsF ((a.toNat : Nat) : Int) 5 s = _ := e1
    rw [bnd_ok e2]
    obtain ⟨⟨c0, c1, c2, c3, c4⟩, _⟩ := h
    have e3 : (List.range 5).map (fun i : Nat => oat s.W (a.toNat + i)) = [k, x, l.to, r.to, (r.rk : Int) + 1] := by
      rw [← c0, ← c1, ← c2, ← c3, ← c4]
      rfl
    rw [e3, show ((a.toNat : Nat) : Int) = a by omega]
    rfl
theorem bra_at {s : Wd} {T : Bt} (hf : s.f < 0) (hl : s.W.length ≤ 1000000) (h : T.Lay s.W) (hs : Sp T.ads s.W.length) : ∃ s1, braF T.to s = (((T.to, (T.rk : Int)), 0), s1) ∧ Sm s s1 1 := by
  cases T with
  | nil => exact ⟨s, rfl, (Sm.refl s).le (by omega)⟩
  | nd a k x l r =>
    have ha := hs.at_ a (by simp [ads])
    obtain ⟨s1, e1, h1⟩ := get_sm hf (a := a.toNat + 4) (by omega)
    refine ⟨s1, ?_, h1⟩
    unfold braF
    rw [if_neg (show ¬ (nd a k x l r).to = 0 by simp only [to]; omega)]
    show bnd (fun s => s.get (uw (nodeA (a + 1) + 4))) (fun r => rtn (a + 1, r)) (0, 0) s = _
    rw [nodeA_of (by omega) (by omega)]
    have e2 : uw (((a.toNat : Nat) : Int) + 4) = ((a.toNat + 4 : Nat) : Int) := uw_add (i := 4) (by omega)
    rw [e2, bnd_ok e1, h.1.2.2.2.2]
    rfl
/-- What is told of a tree. -/
def Tells (q : Option Tr) (T : Bt) : Prop := toT q = T.to ∧ rkT q = (T.rk : Int)
theorem top_tells {P : List Int} {N : Nat} {T : Bt} {f : Bool} {n : Int} (h : Sp ((T.rs n f).ads ++ P) N) (hN : N ≤ 1000000) : Tells ((T.top f).map (Tr.res n)) (T.rs n f) := by
  cases T with
  | nil => exact ⟨rfl, rfl⟩
  | nd a k x l r =>
    have ha := h.at_ (if f = true then n else a) (by simp [ads, rs])
    cases f with
    | true => exact ⟨uw_id ⟨by simp at ha; show 0 ≤ n + 1; omega, by simp at ha; show n + 1 < _; omega⟩, rfl⟩
    | false => exact ⟨uw_id ⟨by simp at ha; show 0 ≤ a + 1; omega, by simp at ha; show a + 1 < _; omega⟩, rfl⟩
theorem newC_bind {a k x : Int} {l r r' : Bt} (t : Tr) (hc : t.c = (nd a k x l r).cs) (hr : r'.rk ≤ 1000) : newC t (l.to, (l.rk : Int)) (r'.to, (r'.rk : Int)) = (Bt.bind a k x l r').cs := by
  have e0 : oat t.c 0 = k := by rw [hc]; rfl
  have e1 : oat t.c 1 = x := by rw [hc]; rfl
  unfold newC Bt.bind
  rw [e0, e1]
  by_cases h : l.rk < r'.rk
  · rw [if_pos h, if_pos (by show (l.rk : Int) < (r'.rk : Int); omega)]
    show [k, x, r'.to, l.to, uw ((l.rk : Int) + 1)] = _
    rw [uw_id ⟨by omega, by omega⟩]
    rfl
  · rw [if_neg h, if_neg (by show ¬ (l.rk : Int) < (r'.rk : Int); omega)]
    show [k, x, l.to, r'.to, uw ((r'.rk : Int) + 1)] = _
    rw [uw_id ⟨by omega, by omega⟩]
    rfl
theorem bind_cs {a k x : Int} {l r : Bt} : ∃ l' r', Bt.bind a k x l r = nd a k x l' r' ∧ ((l' = l ∧ r' = r) ∨ (l' = r ∧ r' = l)) := by
  unfold Bt.bind
  split
  · exact ⟨_, _, rfl, .inr ⟨rfl, rfl⟩⟩
  · exact ⟨_, _, rfl, .inl ⟨rfl, rfl⟩⟩
theorem bind_lay {W : List Int} {a k x : Int} {l r : Bt} (h : ∀ i : Nat, i < 5 → oat W (a.toNat + i) = oat (Bt.bind a k x l r).cs i) (hl : l.Lay W) (hr : r.Lay W) : (Bt.bind a k x l r).Lay W := by
  obtain ⟨l', r', e, q⟩ := bind_cs (a := a) (k := k) (x := x) (l := l) (r := r)
  rw [e] at h ⊢
  refine lay_cs.2 ⟨h, ?_⟩
  rcases q with ⟨rfl, rfl⟩ | ⟨rfl, rfl⟩
  · exact ⟨hl, hr⟩
  · exact ⟨hr, hl⟩
end Go.Proofs.Ytalopkllldnipaa


/- Two trees put together in words, whatever is done at the turn (layer 24), pure. No statement of the seat is proved here. -/
namespace Go.Proofs.Ytalopkllldnipaa
open Go.RowKit Bt

/-- A tree that lies, or one node that lies nowhere yet. -/
def LyF (W : List Int) (T : Bt) (f : Bool) : Prop := if f = true then T.lone else T.Lay W
theorem LyF.kids {W : List Int} {a k x : Int} {l r : Bt} {f : Bool} (h : LyF W (nd a k x l r) f) : l.Lay W ∧ r.Lay W := by
  cases f with
  | true =>
    obtain ⟨a', k', x', e⟩ : (nd a k x l r).lone := h
    injection e with _ _ _ e1 e2
    subst e1 e2
    exact ⟨trivial, trivial⟩
  | false =>
    have q : (nd a k x l r).Lay W := h
    exact q.2
theorem Sp.sub {P Q : List Int} {N : Nat} (h : Sp P N) (hs : Q.Sublist P) : Sp Q N := ⟨h.nd.sublist hs, fun a ha => h.at_ a (hs.subset ha)⟩
theorem chg_bin {s : Wd} (hf : s.f < 0) (hl : s.W.length ≤ 1000000) {a k x : Int} {l r r' : Bt} (t : Tr) (ht : t.at_ = a) (hc : t.c = (nd a k x l r).cs) (ha : 18 ≤ a ∧ a + 5 ≤ (s.W.length : Int)) (hw : ∀ i : Nat, i < 5 → oat s.W (a.toNat + i) = oat (nd a k x l r).cs i) (hr : r'.rk ≤ 1000) :
    ∃ s1, binF t (l.to, (l.rk : Int)) (r'.to, (r'.rk : Int)) s = (({ t with c := (Bt.bind a k x l r').cs }, 0), s1) ∧ Ct s s1 0 5 ∧ Frm [a] s.W s1.W ∧ ∀ i : Nat, i < 5 → oat s1.W (a.toNat + i) = oat (Bt.bind a k x l r').cs i := by
  obtain ⟨s1, e1, h1, l1, c1⟩ := chgK_ct hf (a := a.toNat) (nd a k x l r).cs (Bt.bind a k x l r').cs hl 5 (by omega) (fun i hi => (hw i hi).symm)
  refine ⟨s1, ?_, h1, ⟨l1, fun c hc => ?_⟩, fun i hi => ?_⟩
  · unfold binF
    rw [newC_bind t hc hr, hc, ht]
    have hlen : (Bt.bind a k x l r').cs.length = 5 := by
      obtain ⟨l', r2, e, _⟩ := bind_cs (a := a) (k := k) (x := x) (l := l) (r := r')
      rw [e]
      rfl
    have e2 : chgU a (nd a k x l r).cs (Bt.bind a k x l r').cs s = (((), 0), s1) := by
      unfold chgU Wd.chg
      rw [hlen]
      have e3 := e1
      unfold chgKU at e3
      rw [show ((a.toNat : Nat) : Int) = a by omega] at e3
      exact e3
    rw [bnd_ok e2]
    rfl
  · rw [c1 c, if_neg]
    have := hc a (by simp)
    omega
  · rw [c1, if_pos (by omega), show a.toNat + i - a.toNat = i by omega]
section
variable {T : Wd → (Int × Int) × Wd} {GT PT N : Nat} {n : Int} {W Wt : List Int}
theorem uni_step (hN6 : N ≤ 1000000) (hN : W.length = N) {k : Nat} {a kk x : Int} {l r O : Bt} {f g : Bool} (hk : r.rk + O.rk ≤ k) (hk1 : k ≤ 128) {s : Wd} (hf : s.f < 0) (hW : s.W = W) (hA : LyF W (nd a kk x l r) f)
    (hAt : ((nd a kk x l r).rs n f).Lay Wt) (hs : Sp (((nd a kk x l r).rs n f).ads ++ (O.rs n g).ads) N)
    (ih : ∀ s2, s2.f < 0 → s2.W = W → ∃ q s3, uni T k (r.top false) (O.top g) s2 = (((q, n), 0), s3) ∧ Tells q (mrg k r (O.rs n g)) ∧ Ct s2 s3 (6 * (r.rk + O.rk) + GT) (5 * (r.rk + O.rk) + PT) ∧ Frm (r.ads ++ (O.rs n g).ads) Wt s3.W ∧ (mrg k r (O.rs n g)).Lay s3.W)
    (hWt : Wt.length = N) (w : Tr) (hw : w = ⟨a, [kk, x, l.to, r.to, (r.rk : Int) + 1], f⟩) :
    ∃ q s1, bnd (braF (oat w.c 2)) (fun l => bnd (treF (oat w.c 3)) (fun r => bnd (uni T k r (O.top g)) (fun p => bnd (binF (w.res p.2) l (toT p.1, rkT p.1)) (fun t => rtn (some t, p.2)) (none, 0)) (none, 0)) (none, 0)) (none, 0) s = (((q, n), 0), s1) ∧ Tells q (Bt.bind (if f = true then n else a) kk x l (mrg k r (O.rs n g))) ∧ Ct s s1 (6 * (r.rk + 1 + O.rk) + GT) (5 * (r.rk + 1 + O.rk) + PT) ∧ Frm (((nd a kk x l r).rs n f).ads ++ (O.rs n g).ads) Wt s1.W ∧ (Bt.bind (if f = true then n else a) kk x l (mrg k r (O.rs n g))).Lay s1.W := by
  obtain ⟨a', ha'⟩ : ∃ a', (if f = true then n else a) = a' := ⟨_, rfl⟩
  have hrs : (nd a kk x l r).rs n f = nd a' kk x l r := by rw [← ha']; rfl
  rw [hrs] at hAt hs ⊢
  rw [ha']
  have hads : (nd a' kk x l r).ads = a' :: (l.ads ++ r.ads) := rfl
  have hrw : r.rk ≤ k := by omega
  obtain ⟨hll, hlr⟩ := hA.kids
  have hlt := (lay_cs.1 hAt).2.1
  have hct := (lay_cs.1 hAt).1
  have hsl : Sp l.ads N := by
    have q := hs.left
    rw [hads] at q
    exact ⟨(List.nodup_append.1 (List.nodup_cons.1 q.nd).2).1, fun b hb => q.at_ b (by simp [hb])⟩
  have hsr : Sp r.ads N := by
    have q := hs.left
    rw [hads] at q
    exact ⟨(List.nodup_append.1 (List.nodup_cons.1 q.nd).2).2.1, fun b hb => q.at_ b (by simp [hb])⟩
  have hsA : Sp ([a'] ++ (l.ads ++ (r.ads ++ (O.rs n g).ads))) N := by
    rw [hads] at hs
    have e : a' :: (l.ads ++ r.ads) ++ (O.rs n g).ads = [a'] ++ (l.ads ++ (r.ads ++ (O.rs n g).ads)) := by simp
    rw [e] at hs
    exact hs
  have ha := hsA.at_ a' (by simp)
  obtain ⟨s1, e1, m1⟩ := bra_at (s := s) (T := l) hf (by rw [hW, hN]; exact hN6) (by rw [hW]; exact hll) (by rw [hW, hN]; exact hsl)
  have f1 : s1.f < 0 := by rw [m1.ct.f]; exact hf
  obtain ⟨s2, e2, m2⟩ := tre_at (s := s1) (T := r) f1 (by rw [m1.W, hW, hN]; exact hN6) (by rw [m1.W, hW]; exact hlr) (by rw [m1.W, hW, hN]; exact hsr)
  have f2 : s2.f < 0 := by rw [m2.ct.f]; exact f1
  obtain ⟨q, s3, e3, t3, c3, fr3, ly3⟩ := ih s2 f2 (by rw [m2.W, m1.W, hW])
  have f3 : s3.f < 0 := by rw [c3.f]; exact f2
  have l3 : s3.W.length = N := by rw [fr3.1, hWt]
  obtain ⟨M, hM⟩ : ∃ M, mrg k r (O.rs n g) = M := ⟨_, rfl⟩
  have hMa : M.ads.Perm (r.ads ++ (O.rs n g).ads) := by rw [← hM]; exact mrg_ads k _ _ (by rw [rs_rk]; exact hk)
  have hMr : M.rk ≤ 128 := by rw [← hM]; have := mrg_rk k r (O.rs n g); rw [rs_rk] at this; omega
  rw [hM] at t3 ly3 ⊢
  have hcell : ∀ i : Nat, i < 5 → oat s3.W (a'.toNat + i) = oat (nd a' kk x l r).cs i := fun i hi => by
    rw [fr3.2 _ (fun b hb => hsA.apart (a := a') (by simp) (List.mem_append_right _ hb) hi)]
    exact hct i hi
  have hwr : w.res n = ⟨a', [kk, x, l.to, r.to, (r.rk : Int) + 1], f⟩ := by
    rw [hw]
    unfold Tr.res
    cases f with
    | true => rw [if_pos rfl]; simp at ha'; rw [ha']
    | false => simp at ha'; rw [ha']; rfl
  obtain ⟨s4, e4, c4, fr4, ly4⟩ := chg_bin (s := s3) f3 (by rw [l3]; exact hN6) (a := a') (k := kk) (x := x) (l := l) (r := r) (r' := M) (w.res n) (by rw [hwr]) (by rw [hwr]; rfl) (by rw [l3]; exact ⟨ha.1, ha.2.1⟩) hcell (by omega)
  refine ⟨some { w.res n with c := (Bt.bind a' kk x l M).cs }, s4, ?_, ?_, ?_, ?_, ?_⟩
  · have g2 : oat w.c 2 = l.to := by rw [hw]; rfl
    have g3 : oat w.c 3 = r.to := by rw [hw]; rfl
    rw [g2, bnd_ok e1, g3, bnd_ok e2, bnd_ok e3]
    dsimp only
    rw [t3.1, t3.2, bnd_ok e4]
    rfl
  · refine ⟨?_, ?_⟩
    · rw [bind_to]
      show uw ((w.res n).at_ + 1) = a' + 1
      rw [hwr]
      exact uw_id ⟨by show 0 ≤ a' + 1; omega, by show a' + 1 < _; omega⟩
    · show oat (Bt.bind a' kk x l M).cs 4 = _
      obtain ⟨l', r2, e, _⟩ := bind_cs (a := a') (k := kk) (x := x) (l := l) (r := M)
      rw [e]
      rfl
  · exact (((m1.ct.trans m2.ct).trans c3).trans c4).le (by omega) (by omega)
  · refine (fr3.mono (fun b hb => ?_)).trans (fr4.mono (fun b hb => ?_))
    · rw [hads]
      rcases List.mem_append.1 hb with q | q
      · simp [q]
      · simp [q]
    · rw [hads]
      simp at hb
      simp [hb]
  · refine bind_lay ly4 ?_ ?_
    · refine (hlt.frm fr3 hsA.right).frm (N := N) fr4 ?_
      exact (hsA.sub ((List.sublist_append_left l.ads _).append_left [a'])).perm List.perm_append_comm
    · refine ly3.frm (N := N) fr4 ?_
      refine ((hsA.sub ((List.sublist_append_right l.ads _).append_left [a'])).perm ?_).perm List.perm_append_comm
      exact hMa.symm.append_left [a']
theorem uni_yes {T : Wd → (Int × Int) × Wd} {k : Nat} {a b : Tr} (h : befE b.ent a.ent) : uni T (k + 1) (some a) (some b) = bnd (braF (oat b.c 2)) (fun l => bnd (treF (oat b.c 3)) (fun r => bnd (uni T k r (some a)) (fun p => bnd (binF (b.res p.2) l (toT p.1, rkT p.1)) (fun t => rtn (some t, p.2)) (none, 0)) (none, 0)) (none, 0)) (none, 0) := by
  conv => lhs; unfold uni
  simp only [if_pos h]
theorem uni_no {T : Wd → (Int × Int) × Wd} {k : Nat} {a b : Tr} (h : ¬ befE b.ent a.ent) : uni T (k + 1) (some a) (some b) = bnd (braF (oat a.c 2)) (fun l => bnd (treF (oat a.c 3)) (fun r => bnd (uni T k r (some b)) (fun p => bnd (binF (a.res p.2) l (toT p.1, rkT p.1)) (fun t => rtn (some t, p.2)) (none, 0)) (none, 0)) (none, 0)) (none, 0) := by
  conv => lhs; unfold uni
  simp only [if_neg h]
theorem uni_at (hN6 : N ≤ 1000000) (hN : W.length = N) (hWt : Wt.length = N) (hT : ∀ s, s.f < 0 → s.W = W → ∃ s1, T s = ((n, 0), s1) ∧ s1.W = Wt ∧ Ct s s1 GT PT) :
    ∀ (k : Nat) (A B : Bt) (f g : Bool) (s : Wd), s.f < 0 → s.W = W → A.rk + B.rk ≤ k → k ≤ 128 → LyF W A f → LyF W B g → (A.rs n f).Lay Wt → (B.rs n g).Lay Wt → Sp ((A.rs n f).ads ++ (B.rs n g).ads) N →
      ∃ q s1, uni T k (A.top f) (B.top g) s = (((q, n), 0), s1) ∧ Tells q (mrg k (A.rs n f) (B.rs n g)) ∧ Ct s s1 (6 * (A.rk + B.rk) + GT) (5 * (A.rk + B.rk) + PT) ∧ Frm ((A.rs n f).ads ++ (B.rs n g).ads) Wt s1.W ∧ (mrg k (A.rs n f) (B.rs n g)).Lay s1.W
  | k, nil, B, f, g, s, hf, hW, hk, hk1, hA, hB, lA, lB, hs => by
    obtain ⟨s1, e1, w1, c1⟩ := hT s hf hW
    have e : ∀ k, uni T k (nil.top f) (B.top g) = bnd T (fun n => rtn ((B.top g).map (Tr.res n), n)) (none, 0) := fun k => by cases k <;> rfl
    refine ⟨(B.top g).map (Tr.res n), s1, by rw [e, bnd_ok e1]; rfl, ?_, c1.le (by omega) (by omega), by rw [w1]; exact Frm.refl _ _, ?_⟩
    · rw [show (nil : Bt).rs n f = nil from rfl, mrg_nil]
      exact top_tells (P := []) (by rw [List.append_nil]; exact hs) hN6
    · rw [show (nil : Bt).rs n f = nil from rfl, mrg_nil, w1]
      exact lB
  | k, nd a kk x l r, nil, f, g, s, hf, hW, hk, hk1, hA, hB, lA, lB, hs => by
    obtain ⟨s1, e1, w1, c1⟩ := hT s hf hW
    have e : ∀ k, uni T k ((nd a kk x l r).top f) ((nil : Bt).top g) = bnd T (fun n => rtn (((nd a kk x l r).top f).map (Tr.res n), n)) (none, 0) := fun k => by cases k <;> rfl
    refine ⟨((nd a kk x l r).top f).map (Tr.res n), s1, by rw [e, bnd_ok e1]; rfl, ?_, c1.le (by omega) (by omega), by rw [w1]; exact Frm.refl _ _, ?_⟩
    · rw [show (nil : Bt).rs n g = nil from rfl, mrg_nil2]
      exact top_tells hs hN6
    · rw [show (nil : Bt).rs n g = nil from rfl, mrg_nil2, w1]
      exact lA
  | 0, nd _ _ _ _ _, nd _ _ _ _ _, _, _, _, _, _, hk, _, _, _, _, _, _ => by simp only [rk] at hk; omega
  | k + 1, nd a kk x l r, nd a2 k2 x2 l2 r2, f, g, s, hf, hW, hk, hk1, hA, hB, lA, lB, hs => by
    have hk' : r.rk + 1 + (r2.rk + 1) ≤ k + 1 := hk
    by_cases hb : befE (k2, x2) (kk, x)
    · have hs2 := hs.perm List.perm_append_comm
      obtain ⟨q, s1, e1, t1, c1, f1, l1⟩ := uni_step (T := T) (GT := GT) (PT := PT) (n := n) (W := W) (Wt := Wt) hN6 hN (k := k) (a := a2) (kk := k2) (x := x2) (l := l2) (r := r2) (O := nd a kk x l r) (f := g) (g := f) (by simp only [rk]; omega) (by omega) hf hW hB lB hs2
        (fun s2 g2 hW2 => by
          have hr := (lay_cs.1 lB).2.2
          have z := uni_at hN6 hN hWt hT k r2 (nd a kk x l r) false f s2 g2 hW2 (by simp only [rk]; omega) (by omega) hB.kids.2 hA (by rw [rs_no]; exact hr) lA (by
            rw [rs_no]
            refine hs2.sub ?_
            refine List.Sublist.append ?_ (List.Sublist.refl _)
            exact (List.sublist_append_right l2.ads r2.ads).cons _)
          rw [rs_no] at z
          exact z) hWt ⟨a2, [k2, x2, l2.to, r2.to, (r2.rk : Int) + 1], g⟩ rfl
      refine ⟨q, s1, ?_, ?_, c1.le (by simp only [rk]; omega) (by simp only [rk]; omega), f1.mono (fun b hb => by rw [List.mem_append] at hb ⊢; exact hb.symm), ?_⟩
      · rw [← e1]
        have hb2 : befE (Tr.ent ⟨a2, [k2, x2, l2.to, r2.to, (r2.rk : Int) + 1], g⟩) (Tr.ent ⟨a, [kk, x, l.to, r.to, (r.rk : Int) + 1], f⟩) := hb
        exact congrFun (uni_yes hb2) s
      · show Tells q (mrg (k + 1) (nd _ kk x l r) (nd _ k2 x2 l2 r2))
        rw [mrg_yes hb]
        exact t1
      · show (mrg (k + 1) (nd _ kk x l r) (nd _ k2 x2 l2 r2)).Lay s1.W
        rw [mrg_yes hb]
        exact l1
    · obtain ⟨q, s1, e1, t1, c1, f1, l1⟩ := uni_step (T := T) (GT := GT) (PT := PT) (n := n) (W := W) (Wt := Wt) hN6 hN (k := k) (a := a) (kk := kk) (x := x) (l := l) (r := r) (O := nd a2 k2 x2 l2 r2) (f := f) (g := g) (by simp only [rk]; omega) (by omega) hf hW hA lA hs
        (fun s2 g2 hW2 => by
          have hr := (lay_cs.1 lA).2.2
          have z := uni_at hN6 hN hWt hT k r (nd a2 k2 x2 l2 r2) false g s2 g2 hW2 (by simp only [rk]; omega) (by omega) hA.kids.2 hB (by rw [rs_no]; exact hr) lB (by
            rw [rs_no]
            refine hs.sub ?_
            refine List.Sublist.append ?_ (List.Sublist.refl _)
            exact (List.sublist_append_right l.ads r.ads).cons _)
          rw [rs_no] at z
          exact z) hWt ⟨a, [kk, x, l.to, r.to, (r.rk : Int) + 1], f⟩ rfl
      refine ⟨q, s1, ?_, ?_, c1.le (by simp only [rk]; omega) (by simp only [rk]; omega), f1, ?_⟩
      · rw [← e1]
        have hb2 : ¬ befE (Tr.ent ⟨a2, [k2, x2, l2.to, r2.to, (r2.rk : Int) + 1], g⟩) (Tr.ent ⟨a, [kk, x, l.to, r.to, (r.rk : Int) + 1], f⟩) := hb
        exact congrFun (uni_no hb2) s
      · show Tells q (mrg (k + 1) (nd _ kk x l r) (nd _ k2 x2 l2 r2))
        rw [mrg_no hb]
        exact t1
      · show (mrg (k + 1) (nd _ kk x l r) (nd _ k2 x2 l2 r2)).Lay s1.W
        rw [mrg_no hb]
        exact l1
end
end Go.Proofs.Ytalopkllldnipaa
