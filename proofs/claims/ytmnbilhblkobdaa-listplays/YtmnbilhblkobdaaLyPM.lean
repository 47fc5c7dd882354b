/-
  No statement of the seat is proved here. (Several texts in one: LyP, LyQ, LyR, LyS, LyT.)
-/
import Derived.Test.YtmnbilhblkobdaaLeL

/- Lists as they lie in words (layer 21), pure: chains of nodes, and the way along them. No statement of the seat is proved here. -/
namespace Go.Proofs.Ytmnbilhblkobdaa
open Go.RowKit

/-- The piece of a cell: pieces have two cells, the first one even. -/
def pc (c : Nat) : Nat := c / 2 * 2
theorem pc_even {a : Nat} (h : a % 2 = 0) : pc a = a ∧ pc (a + 1) = a := by unfold pc; omega
/-- Nodes behind a link, up to a word. -/
def pathE (W : List Int) : Nat → List (Nat × Int) → Int → Prop
  | link, [], e => oat W link = e
  | link, (a, k) :: r, e => oat W link = (a : Int) + 1 ∧ oat W a = k ∧ pathE W (a + 1) r e
/-- The last link. -/
def lastL : Nat → List (Nat × Int) → Nat
  | link, [] => link
  | _, (a, _) :: r => lastL (a + 1) r
def Ev (N : List (Nat × Int)) : Prop := ∀ p ∈ N, p.1 % 2 = 0
theorem lastL_pc : ∀ (A : List (Nat × Int)) (link : Nat), Ev A → pc (lastL link A) ∈ pc link :: A.map Prod.fst
  | [], link, _ => by simp [lastL]
  | (a, k) :: A, link, h => by
    have q := lastL_pc A (a + 1) (fun p hp => h p (by simp [hp]))
    rw [(pc_even (h (a, k) (by simp))).2] at q
    simp only [lastL, List.map_cons, List.mem_cons] at q ⊢
    exact .inr q
theorem path_tail {W : List Int} {B : List (Nat × Int)} {e : Int} : ∀ (A : List (Nat × Int)) (link : Nat), pathE W link (A ++ B) e → pathE W (lastL link A) B e
  | [], _, h => h
  | (a, _) :: A, _, h => path_tail A (a + 1) h.2.2
/-- The same cells, the same nodes; the first link may be another one. -/
theorem path_relink {W W' : List Int} {e : Int} : ∀ (B : List (Nat × Int)) (link y : Nat), Ev B → pathE W link B e → oat W' y = oat W link → (∀ c, pc c ∈ B.map Prod.fst → oat W' c = oat W c) → pathE W' y B e
  | [], link, y, _, h, hy, _ => hy.trans h
  | (a, k) :: B, link, y, hev, h, hy, hs => by
    have he := pc_even (hev (a, k) (by simp))
    refine ⟨hy.trans h.1, (hs a (by rw [he.1]; simp)).trans h.2.1, ?_⟩
    refine path_relink B (a + 1) (a + 1) (fun p hp => hev p (by simp [hp])) h.2.2 (hs (a + 1) (by rw [he.2]; simp)) (fun c hc => hs c (by simp only [List.map_cons, List.mem_cons]; exact .inr hc))
theorem path_splice {W W' : List Int} {B C : List (Nat × Int)} {e e' : Int} : ∀ (A : List (Nat × Int)) (link : Nat), Ev A → (pc link :: A.map Prod.fst).Nodup → pathE W link (A ++ B) e → (∀ c, pc c ∈ pc link :: A.map Prod.fst → c ≠ lastL link A → c ≠ pc link ∨ link % 2 = 0 → oat W' c = oat W c) → pathE W' (lastL link A) C e' → pathE W' link (A ++ C) e'
  | [], _, _, _, _, _, h => h
  | (a, k) :: A, link, hev, hnd, h, hs, hc => by
    have he := pc_even (hev (a, k) (by simp))
    have hevA : Ev A := fun p hp => hev p (by simp [hp])
    have hnd2 := List.nodup_cons.1 hnd
    have hl : link ≠ lastL (a + 1) A := by
      intro q
      have z := lastL_pc A (a + 1) hevA
      rw [← q, he.2] at z
      exact hnd2.1 (by simpa using z)
    have ha : a ≠ lastL (a + 1) A := by
      intro q
      have z := lastL_pc A (a + 1) hevA
      cases A with
      | nil => simp [lastL] at q
      | cons p A =>
        obtain ⟨b, kb⟩ := p
        have z2 := lastL_pc A (b + 1) (fun p hp => hevA p (by simp [hp]))
        have hb := pc_even (hevA (b, kb) (by simp))
        have q2 : a = lastL (b + 1) A := q
        rw [← q2, he.1, hb.2] at z2
        have h3 := (List.nodup_cons.1 hnd2.2).1
        exact h3 (by simpa using z2)
    refine ⟨(hs link (by simp) hl ?_).trans h.1, (hs a (by rw [he.1]; simp) ha ?_).trans h.2.1, ?_⟩
    · by_cases q : link % 2 = 0
      · exact .inr q
      · left; unfold pc; omega
    · by_cases q : link % 2 = 0
      · exact .inr q
      · left
        intro q2
        exact hnd2.1 (by rw [← q2]; simp)
    · refine path_splice A (a + 1) hevA (by rw [he.2]; exact hnd2.2) h.2.2 (fun c hc1 hc2 hc3 => hs c ?_ hc2 ?_) hc
      · rw [he.2] at hc1
        simp only [List.map_cons, List.mem_cons] at hc1 ⊢
        exact .inr hc1
      · by_cases q : link % 2 = 0
        · exact .inr q
        · left
          intro q2
          rw [he.2] at hc1
          have : pc c = pc link := by rw [q2]; unfold pc; omega
          rw [this] at hc1
          exact hnd2.1 (by simpa using hc1)
/-- The spots of nodes. -/
def spots : Nat → List (Nat × Int) → List Sp
  | _, [] => []
  | link, (a, k) :: r => ⟨link, (a : Int) + 1, k⟩ :: spots (a + 1) r
theorem spots_keys : ∀ (N : List (Nat × Int)) (link : Nat), (spots link N).map Sp.k = N.map Prod.snd
  | [], _ => rfl
  | (a, k) :: r, link => by simp [spots, spots_keys r (a + 1)]
theorem spots_nd : ∀ (N : List (Nat × Int)) (link : Nat), (∀ p ∈ N, p.1 < 1000000) → (spots link N).map Sp.nd = N.map (fun p => (p.1 : Int))
  | [], _, _ => rfl
  | (a, k) :: r, link, h => by
    have q := h (a, k) (by simp)
    have e : uw ((a : Int) + 1 - 1) = a := by rw [show (a : Int) + 1 - 1 = a by omega]; exact uw_id ⟨by omega, by simp only at q; omega⟩
    simp only [spots, List.map_cons, Sp.nd, e, List.cons.injEq, true_and]
    exact spots_nd r (a + 1) (fun p hp => h p (by simp [hp]))
theorem spots_len : ∀ (N : List (Nat × Int)) (link : Nat), (spots link N).length = N.length
  | [], _ => rfl
  | (a, k) :: r, link => by simp [spots, spots_len r (a + 1)]
/-- What a look leaves. -/
def Lkd (s s' : Wd) : Prop := s'.W = s.W ∧ s'.f = s.f ∧ s'.p = s.p ∧ s'.c = s.c
theorem Lkd.trans {a b c : Wd} (h : Lkd a b) (k : Lkd b c) : Lkd a c := ⟨k.1.trans h.1, k.2.1.trans h.2.1, k.2.2.1.trans h.2.2.1, k.2.2.2.trans h.2.2.2⟩
theorem get_at {s : Wd} (hf : s.f < 0) {a : Nat} (h : a < s.W.length) : ∃ s1, s.get a = ((oat s.W a, 0), s1) ∧ Lkd s s1 := by
  have q : ¬ (s.W.length : Int) ≤ (a : Int) := by omega
  rw [get_no hf, if_neg q]
  exact ⟨_, rfl, rfl, rfl, rfl, rfl⟩
theorem follow_node {s : Wd} (hf : s.f < 0) {link a : Nat} {k : Int} (h1 : link < s.W.length) (h2 : a < s.W.length) (hl : s.W.length ≤ 1000) (hlk : oat s.W link = (a : Int) + 1) (hk : oat s.W a = k) : ∃ s1, s.follow link = ((⟨link, (a : Int) + 1, k⟩, 0), s1) ∧ Lkd s s1 := by
  have e : uw ((a : Int) + 1 - 1) = a := by rw [show (a : Int) + 1 - 1 = a by omega]; exact uw_id ⟨by omega, by omega⟩
  obtain ⟨s1, e1, l1⟩ := get_at hf h1
  obtain ⟨s2, e2, l2⟩ := get_at (s := s1) (a := a) (by rw [l1.2.1]; exact hf) (by rw [l1.1]; exact h2)
  rw [hlk] at e1
  rw [l1.1, hk] at e2
  have h0 : (a : Int) + 1 ≠ 0 := by omega
  refine ⟨s2, ?_, l1.trans l2⟩
  unfold Wd.follow
  rw [e1]
  simp only [ne_eq, not_true_eq_false, if_false, h0, e, e2]
theorem follow_end {s : Wd} (hf : s.f < 0) {link : Nat} (h1 : link < s.W.length) (hlk : oat s.W link = 0) : ∃ s1, s.follow link = ((⟨link, 0, 0⟩, 0), s1) ∧ Lkd s s1 := by
  obtain ⟨s1, e1, l1⟩ := get_at hf h1
  rw [hlk] at e1
  refine ⟨s1, ?_, l1⟩
  unfold Wd.follow
  rw [e1]
  simp only [ne_eq, not_true_eq_false, if_false, if_true]
theorem lastL_lt {n : Nat} : ∀ (A : List (Nat × Int)) (link : Nat), link < n → (∀ p ∈ A, p.1 + 1 < n) → lastL link A < n
  | [], _, h, _ => h
  | (a, k) :: A, _, _, h => lastL_lt A (a + 1) (h (a, k) (by simp)) (fun p hp => h p (by simp [hp]))
/-- The way passes over nodes. -/
theorem way_pass (pass : List Sp → Sp → Bool) (B : List (Nat × Int)) : ∀ (A : List (Nat × Int)) (m link : Nat) (b : Sp) (P : List Sp) (s : Wd), s.f < 0 → s.W.length ≤ 1000 → pathE s.W link (A ++ B) 0 → link < s.W.length → (∀ p ∈ A ++ B, p.1 + 1 < s.W.length) → ((A ++ B).map Prod.snd).Pairwise (· < ·) → (b.n ≠ 0 → ∀ p ∈ A ++ B, b.k < p.2) →
    (∀ i (h : i < A.length), pass (P ++ (spots link A).take i) ((spots link A)[i]'(by rw [spots_len]; exact h)) = true) →
    ∃ b' s', Lkd s s' ∧ way pass (A.length + m) b link P s = way pass m b' (lastL link A) (P ++ spots link A) s' ∧ (b'.n ≠ 0 → ∀ p ∈ B, b'.k < p.2)
  | [], m, link, b, P, s, hf, hl, hp, hlk, hin, hup, hb, hps => ⟨b, s, ⟨rfl, rfl, rfl, rfl⟩, by simp [spots, lastL], fun q p hp => hb q p (by simpa using hp)⟩
  | (a, k) :: A, m, link, b, P, s, hf, hl, hp, hlk, hin, hup, hb, hps => by
    have ha := hin (a, k) (by simp)
    obtain ⟨s1, e, hlk1⟩ := follow_node hf hlk (by simp only at ha; omega) hl hp.1 hp.2.1
    have h0 : (a : Int) + 1 ≠ 0 := by omega
    have hnb : ¬ (b.n ≠ 0 ∧ k ≤ b.k) := fun q => by have := hb q.1 (a, k) (by simp); simp only at this; omega
    have hp0 := hps 0 (by simp)
    simp only [spots, List.take_zero, List.append_nil, List.getElem_cons_zero] at hp0
    have hup2 := List.pairwise_cons.1 (show (k :: (A ++ B).map Prod.snd).Pairwise (· < ·) by simpa using hup)
    have hnd : ld (Sp.nd ⟨link, (a : Int) + 1, k⟩) = ((a + 1 : Nat) : Int) := by
      have q := ld_nd (x := (a : Int) + 1) ⟨by omega, by simp only at ha; omega⟩ link k
      rw [q]; omega
    obtain ⟨b', s', l', e', hb'⟩ := way_pass pass B A m (a + 1) ⟨link, (a : Int) + 1, k⟩ (P ++ [⟨link, (a : Int) + 1, k⟩]) s1 (by rw [hlk1.2.1]; exact hf) (by rw [hlk1.1]; exact hl) (by rw [hlk1.1]; exact hp.2.2) (by rw [hlk1.1]; exact ha) (by rw [hlk1.1]; exact fun p hp => hin p (by simp only [List.cons_append, List.mem_cons]; exact .inr hp)) hup2.2 (fun _ p hp => hup2.1 p.2 (List.mem_map.2 ⟨p, hp, rfl⟩)) (fun i hi => by
      have q := hps (i + 1) (by simp; omega)
      simp only [spots, List.take_succ_cons, List.getElem_cons_succ] at q
      rw [List.append_assoc]
      exact q)
    refine ⟨b', s', hlk1.trans l', ?_, hb'⟩
    have hm : ((a, k) :: A).length + m = (A.length + m) + 1 := by simp; omega
    rw [hm, way_next e h0 hnb hp0, hnd, e']
    simp [spots, lastL]
end Go.Proofs.Ytmnbilhblkobdaa


/- A room with two lists, as plain data (layer 21), pure: what it keeps to, and a key more or fewer. No statement of the seat is proved here. -/
namespace Go.Proofs.Ytmnbilhblkobdaa
open Go.RowKit

theorem oat_set (l : List Int) (i j : Nat) (x : Int) : oat (l.set i x) j = if i = j ∧ j < l.length then x else oat l j := by
  unfold oat
  rw [List.getElem?_set]
  by_cases h : i = j
  · subst h
    by_cases h2 : i < l.length
    · simp [h2]
    · simp [h2]
  · simp [h]
def pcs (l : Nat) (N : List (Nat × Int)) (l' : Nat) (N' : List (Nat × Int)) (F : List Nat) : List Nat := (l :: N.map Prod.fst) ++ ((l' :: N'.map Prod.fst) ++ F)
def fch (W : List Int) : Int → List Nat → Prop
  | h, [] => h = 0
  | h, a :: r => h = (a : Int) + 1 ∧ fch W (oat W a) r
theorem fch_same {W W' : List Int} : ∀ (F : List Nat) (h : Int), fch W h F → (∀ a ∈ F, oat W' a = oat W a) → fch W' h F
  | [], _, q, _ => q
  | a :: F, _, q, hs => ⟨q.1, by rw [hs a (by simp)]; exact fch_same F _ q.2 (fun b hb => hs b (by simp [hb]))⟩
structure Ls (W : List Int) (l : Nat) (N : List (Nat × Int)) : Prop where
  cnt : oat W l = (N.length : Int)
  pth : pathE W (l + 1) N 0
  up : (N.map Prod.snd).Pairwise (· < ·)
  kw : ∀ p ∈ N, isW p.2
theorem Ls.same {W W' : List Int} {l : Nat} {N : List (Nat × Int)} (h : Ls W l N) (he : l % 2 = 0) (hev : Ev N) (hs : ∀ c, pc c ∈ l :: N.map Prod.fst → oat W' c = oat W c) : Ls W' l N := by
  have q := pc_even he
  exact ⟨(hs l (by rw [q.1]; simp)).trans h.cnt, path_relink N (l + 1) (l + 1) hev h.pth (hs (l + 1) (by rw [q.2]; simp)) (fun c hc => hs c (by simp only [List.mem_cons]; exact .inr hc)), h.up, h.kw⟩
/-- A room of n cells with two lists, and what was given back. -/
structure Rm2 (W : List Int) (n l : Nat) (N : List (Nat × Int)) (l' : Nat) (N' : List (Nat × Int)) (F : List Nat) : Prop where
  len : W.length = n
  n40 : 40 ≤ n
  n200 : n ≤ 200
  ws : ∀ x ∈ W, isW x
  w1 : oat W 1 = (n : Int)
  w0 : oat W 0 = 18 + 2 * ((pcs l N l' N' F).length : Int)
  w0n : oat W 0 ≤ (n : Int)
  nd : (pcs l N l' N' F).Nodup
  ev : ∀ a ∈ pcs l N l' N' F, a % 2 = 0 ∧ 18 ≤ a ∧ (a : Int) + 2 ≤ oat W 0
  la : Ls W l N
  lb : Ls W l' N'
  fr : fch W (oat W 3) F
theorem pcs_swap (l : Nat) (N : List (Nat × Int)) (l' : Nat) (N' : List (Nat × Int)) (F : List Nat) : (pcs l N l' N' F).Perm (pcs l' N' l N F) := by
  unfold pcs
  rw [← List.append_assoc, ← List.append_assoc]
  exact List.perm_append_comm.append_right F
theorem pcs_ins (l x : Nat) (k : Int) (A B : List (Nat × Int)) (l' : Nat) (N' : List (Nat × Int)) (F : List Nat) : (pcs l (A ++ (x, k) :: B) l' N' F).Perm (x :: pcs l (A ++ B) l' N' F) := by
  unfold pcs
  have h1 : ((A ++ (x, k) :: B).map Prod.fst).Perm (x :: (A ++ B).map Prod.fst) := by
    rw [List.map_append, List.map_cons, List.map_append]
    exact List.perm_middle
  exact ((h1.cons l).trans (List.Perm.swap x l _)).append_right _
theorem pcs_free (l x : Nat) (N : List (Nat × Int)) (l' : Nat) (N' : List (Nat × Int)) (F : List Nat) : (pcs l N l' N' (x :: F)).Perm (x :: pcs l N l' N' F) := by
  unfold pcs
  rw [← List.append_assoc, ← List.append_assoc]
  exact List.perm_middle
section
variable {W W' : List Int} {n l l' : Nat} {N N' A B : List (Nat × Int)} {F : List Nat}
theorem Rm2.swap (h : Rm2 W n l N l' N' F) : Rm2 W n l' N' l N F := by
  have p := pcs_swap l N l' N' F
  exact ⟨h.len, h.n40, h.n200, h.ws, h.w1, by rw [← p.length_eq]; exact h.w0, h.w0n, p.nodup_iff.1 h.nd, fun a ha => h.ev a (p.mem_iff.2 ha), h.lb, h.la, h.fr⟩
theorem Rm2.evA (h : Rm2 W n l N l' N' F) : Ev N ∧ l % 2 = 0 ∧ Ev N' ∧ l' % 2 = 0 := by
  refine ⟨fun p hp => (h.ev p.1 ?_).1, (h.ev l ?_).1, fun p hp => (h.ev p.1 ?_).1, (h.ev l' ?_).1⟩
  · unfold pcs; simp only [List.mem_append, List.mem_cons]; exact .inl (.inr (List.mem_map.2 ⟨p, hp, rfl⟩))
  · unfold pcs; simp
  · unfold pcs; simp only [List.mem_append, List.mem_cons]; exact .inr (.inl (.inr (List.mem_map.2 ⟨p, hp, rfl⟩)))
  · unfold pcs; simp
theorem Rm2.nin (h : Rm2 W n l N l' N' F) : (∀ a ∈ l' :: N'.map Prod.fst, a ∉ l :: N.map Prod.fst) ∧ (∀ a ∈ F, a ∉ l :: N.map Prod.fst) ∧ (∀ a ∈ F, a ∉ l' :: N'.map Prod.fst) ∧ (l :: N.map Prod.fst).Nodup ∧ F.Nodup := by
  have q := List.nodup_append.1 h.nd
  have q2 := List.nodup_append.1 q.2.1
  refine ⟨fun a ha hb => q.2.2 a hb a (by simp only [List.mem_append]; exact .inl ha) rfl, fun a ha hb => q.2.2 a hb a (by simp only [List.mem_append]; exact .inr ha) rfl, fun a ha hb => q2.2.2 a hb a ha rfl, q.1, q2.2.1⟩
theorem Rm2.inb (h : Rm2 W n l N l' N' F) : (∀ p ∈ N, p.1 + 1 < n ∧ 18 ≤ p.1) ∧ l + 1 < n ∧ 18 ≤ l ∧ (∀ a ∈ F, a + 1 < n ∧ 18 ≤ a) := by
  have hw := h.w0n
  refine ⟨fun p hp => ?_, ?_, ?_, fun a ha => ?_⟩
  · have q := h.ev p.1 (by unfold pcs; simp only [List.mem_append, List.mem_cons]; exact .inl (.inr (List.mem_map.2 ⟨p, hp, rfl⟩)))
    omega
  · have q := h.ev l (by unfold pcs; simp)
    omega
  · exact (h.ev l (by unfold pcs; simp)).2.1
  · have q := h.ev a (by unfold pcs; simp only [List.mem_append]; exact .inr (.inr ha))
    omega
/-- A key more: the words behind it. -/
theorem Rm2.more (h : Rm2 W n l (A ++ B) l' N' F) {x : Nat} {k : Int} {F1 : List Nat} {h0 h3 : Int} (hk : isW k)
    (hx : (F = x :: F1 ∧ h0 = oat W 0 ∧ h3 = oat W x) ∨ (F = [] ∧ F1 = [] ∧ (x : Int) = oat W 0 ∧ (x : Int) + 2 ≤ n ∧ h0 = (x : Int) + 2 ∧ h3 = oat W 3))
    (hup : (((A ++ (x, k) :: B).map Prod.snd)).Pairwise (· < ·)) (hlen : W'.length = n) (hws : ∀ y ∈ W', isW y)
    (hW : ∀ c, c < n → oat W' c = if c = l then ((A ++ B).length : Int) + 1 else if c = lastL (l + 1) A then (x : Int) + 1 else if c = x + 1 then oat W (lastL (l + 1) A) else if c = x then k else if c = 3 then h3 else if c = 0 then h0 else oat W c) :
    Rm2 W' n l (A ++ (x, k) :: B) l' N' F1 := by
  have hev := h.evA
  have hin := h.inb
  have hin' := h.swap.inb
  have hn := h.nin
  have hevA : Ev A := fun p hp => hev.1 p (by simp [hp])
  have hevB : Ev B := fun p hp => hev.1 p (by simp [hp])
  have hxe : x % 2 = 0 ∧ 18 ≤ x ∧ x + 1 < n ∧ x ∉ l :: (A ++ B).map Prod.fst ∧ x ∉ l' :: N'.map Prod.fst ∧ x ∉ F1 := by
    rcases hx with ⟨rfl, _, _⟩ | ⟨rfl, rfl, hx0, hx2, _, _⟩
    · have q := h.ev x (by unfold pcs; simp)
      have q2 := hin.2.2.2 x (by simp)
      exact ⟨q.1, q.2.1, q2.1, hn.2.1 x (by simp), hn.2.2.1 x (by simp), (List.nodup_cons.1 hn.2.2.2.2).1⟩
    · have q := h.w0
      refine ⟨by omega, by omega, by omega, fun z => ?_, fun z => ?_, by simp⟩
      · have := (h.ev x (by unfold pcs; simp only [List.mem_append]; exact .inl z)).2.2; omega
      · have := (h.ev x (by unfold pcs; simp only [List.mem_append]; exact .inr (.inl z))).2.2; omega
  obtain ⟨xe, x18, xn, xl, xl', xF⟩ := hxe
  have hpx := pc_even xe
  have hpl := pc_even hev.2.1
  have hL := lastL_pc A (l + 1) hevA
  rw [hpl.2] at hL
  have hLs : pc (lastL (l + 1) A) ∈ l :: (A ++ B).map Prod.fst := by
    simp only [List.map_append, List.mem_cons, List.mem_append] at hL ⊢
    rcases hL with q | q
    · exact .inl q
    · exact .inr (.inl q)
  have hLodd : lastL (l + 1) A % 2 = 1 := by
    have : ∀ (A : List (Nat × Int)) (k : Nat), Ev A → k % 2 = 1 → lastL k A % 2 = 1 := by
      intro A
      induction A with
      | nil => intro k _ h; exact h
      | cons p A ih => intro k h1 _; obtain ⟨a, ka⟩ := p; exact ih (a + 1) (fun p hp => h1 p (by simp [hp])) (by have := h1 (a, ka) (by simp); simp only at this; omega)
    exact this A (l + 1) hevA (by omega)
  have hLn : lastL (l + 1) A < n := lastL_lt A (l + 1) hin.2.1 (fun p hp => (hin.1 p (by simp [hp])).1)
  have hL18 : 18 ≤ lastL (l + 1) A := by
    have : ∀ (A : List (Nat × Int)) (k : Nat), (∀ p ∈ A, 18 ≤ p.1) → 18 ≤ k → 18 ≤ lastL k A := by
      intro A
      induction A with
      | nil => intro k _ h; exact h
      | cons p A ih => intro k h1 _; obtain ⟨a, ka⟩ := p; exact ih (a + 1) (fun p hp => h1 p (by simp [hp])) (by have := h1 (a, ka) (by simp); simp only at this; omega)
    exact this A (l + 1) (fun p hp => (hin.1 p (by simp [hp])).2) (by omega)
  -- cells of other pieces stay
  have hoth : ∀ c, 18 ≤ c → c < n → pc c ∉ l :: (A ++ B).map Prod.fst → pc c ≠ x → oat W' c = oat W c := by
    intro c h18 hcn hnot hnx
    rw [hW c hcn, if_neg, if_neg, if_neg, if_neg, if_neg (by omega), if_neg (by omega)]
    · intro q; rw [q, hpx.1] at hnx; exact hnx rfl
    · intro q; rw [q, hpx.2] at hnx; exact hnx rfl
    · intro q; rw [q] at hnot; exact hnot hLs
    · intro q; rw [q, hpl.1] at hnot; exact hnot (by simp)
  have hcl : ∀ c : Nat, c ≤ pc c + 1 ∧ pc c ≤ c := fun c => by unfold pc; omega
  have hmem : ∀ c, pc c ∈ l :: (A ++ B).map Prod.fst → 18 ≤ c ∧ c < n := by
    intro c hc
    have q := hcl c
    simp only [List.mem_cons, List.mem_map] at hc
    rcases hc with z | ⟨p, hp, z⟩
    · omega
    · have := hin.1 p hp; omega
  have hmem' : ∀ c, pc c ∈ l' :: N'.map Prod.fst → 18 ≤ c ∧ c < n := by
    intro c hc
    have q := hcl c
    simp only [List.mem_cons, List.mem_map] at hc
    rcases hc with z | ⟨p, hp, z⟩
    · omega
    · have := hin'.1 p hp; omega
  have hown : ∀ c, pc c ∈ l :: (A ++ B).map Prod.fst → c ≠ l → c ≠ lastL (l + 1) A → oat W' c = oat W c := by
    intro c hc h1 h2
    have q := hmem c hc
    have hnx : pc c ≠ x := fun z => xl (z ▸ hc)
    rw [hW c q.2, if_neg h1, if_neg h2, if_neg, if_neg, if_neg (by omega), if_neg (by omega)]
    · intro z; rw [z, hpx.1] at hnx; exact hnx rfl
    · intro z; rw [z, hpx.2] at hnx; exact hnx rfl
  have hnd := hn.2.2.2.1
  have hnd2 : (l :: A.map Prod.fst).Nodup := by
    rw [List.map_append, ← List.cons_append] at hnd
    exact (List.nodup_append.1 hnd).1
  have hdis : ∀ a ∈ B.map Prod.fst, a ∉ l :: A.map Prod.fst := by
    rw [List.map_append, ← List.cons_append] at hnd
    exact fun a ha hb => (List.nodup_append.1 hnd).2.2 a hb a ha rfl
  have hpm := pcs_ins l x k A B l' N' F1
  have hl18 := hin.2.2.1
  have hlL : lastL (l + 1) A ≠ l := by omega
  have hxL : x ≠ lastL (l + 1) A := by omega
  have hx1L : x + 1 ≠ lastL (l + 1) A := fun q => xl (by rw [← q, hpx.2] at hLs; exact hLs)
  have hxl0 : x ≠ l := fun q => xl (by rw [q]; simp)
  have hx1l : x + 1 ≠ l := by omega
  have e0 : oat W' 0 = h0 := by rw [hW 0 (by omega), if_neg (by omega), if_neg (by omega), if_neg (by omega), if_neg (by omega), if_neg (by omega), if_pos rfl]
  have e1 : oat W' 1 = oat W 1 := by rw [hW 1 (by omega), if_neg (by omega), if_neg (by omega), if_neg (by omega), if_neg (by omega), if_neg (by omega), if_neg (by omega)]
  have e3 : oat W' 3 = h3 := by rw [hW 3 (by omega), if_neg (by omega), if_neg (by omega), if_neg (by omega), if_neg (by omega), if_pos rfl]
  have hfs : ∀ a ∈ F1, a ∈ F := by
    rcases hx with ⟨rfl, _, _⟩ | ⟨rfl, rfl, _⟩
    · exact fun a ha => by simp [ha]
    · exact fun a ha => ha
  have hF : ∀ a ∈ F1, oat W' a = oat W a := by
    intro a ha
    have q := hin.2.2.2 a (hfs a ha)
    have z := (h.ev a (by unfold pcs; simp only [List.mem_append]; exact .inr (.inr (hfs a ha)))).1
    refine hoth a q.2 (by omega) ?_ ?_
    · rw [(pc_even z).1]; exact hn.2.1 a (hfs a ha)
    · rw [(pc_even z).1]; exact fun q => xF (q ▸ ha)
  refine ⟨hlen, h.n40, h.n200, hws, e1.trans h.w1, ?_, ?_, ?_, ?_, ⟨?_, ?_, hup, ?_⟩, ?_, ?_⟩
  · rw [e0, hpm.length_eq]
    rcases hx with ⟨rfl, q0, _⟩ | ⟨rfl, rfl, q0, _, q2, _⟩
    · have := h.w0
      rw [(pcs_free l x (A ++ B) l' N' F1).length_eq] at this
      rw [q0]; exact this
    · have := h.w0
      simp only [List.length_cons]
      omega
  · rw [e0]
    rcases hx with ⟨rfl, q0, _⟩ | ⟨rfl, rfl, q0, _, q2, _⟩
    · rw [q0]; exact h.w0n
    · omega
  · rw [hpm.nodup_iff]
    rcases hx with ⟨rfl, q0, _⟩ | ⟨rfl, rfl, q0, _, q2, _⟩
    · exact (pcs_free l x (A ++ B) l' N' F1).nodup_iff.1 h.nd
    · refine List.nodup_cons.2 ⟨fun z => ?_, h.nd⟩
      have := (h.ev x z).2.2; omega
  · intro a ha
    have ha2 := hpm.mem_iff.1 ha
    rw [e0]
    rcases hx with ⟨rfl, q0, _⟩ | ⟨rfl, rfl, q0, _, q2, _⟩
    · have := h.ev a ((pcs_free l x (A ++ B) l' N' F1).mem_iff.2 ha2)
      rw [q0]; exact this
    · rcases List.mem_cons.1 ha2 with rfl | ha3
      · exact ⟨xe, x18, by omega⟩
      · have := h.ev a ha3
        exact ⟨this.1, this.2.1, by omega⟩
  · rw [hW l (by omega), if_pos rfl]
    simp only [List.length_append, List.length_cons]
    omega
  · refine path_splice (W := W) (B := B) (e := 0) A (l + 1) hevA (by rw [hpl.2]; exact hnd2) h.la.pth (fun c hc1 hc2 hc3 => hown c ?_ ?_ hc2) ⟨?_, ?_, ?_⟩
    · rw [hpl.2] at hc1
      simp only [List.map_append, List.mem_cons, List.mem_append] at hc1 ⊢
      rcases hc1 with z | z
      · exact .inl z
      · exact .inr (.inl z)
    · rcases hc3 with z | z
      · rw [hpl.2] at z; exact z
      · omega
    · rw [hW _ hLn, if_neg hlL, if_pos rfl]
    · rw [hW x (by omega), if_neg hxl0, if_neg hxL, if_neg (by omega), if_pos rfl]
    · refine path_relink B (lastL (l + 1) A) (x + 1) hevB (path_tail A (l + 1) h.la.pth) ?_ (fun c hc => hown c ?_ ?_ ?_)
      · rw [hW (x + 1) xn, if_neg hx1l, if_neg hx1L, if_pos rfl]
      · simp only [List.map_append, List.mem_cons, List.mem_append]
        exact .inr (.inr hc)
      · intro z
        rw [z, hpl.1] at hc
        exact hdis l hc (by simp)
      · intro z
        rw [z] at hc
        exact hdis _ hc hL
  · intro p hp
    simp only [List.mem_append, List.mem_cons] at hp
    rcases hp with z | rfl | z
    · exact h.la.kw p (by simp [z])
    · exact hk
    · exact h.la.kw p (by simp [z])
  · refine h.lb.same hev.2.2.2 hev.2.2.1 (fun c hc => ?_)
    have q := hmem' c hc
    exact hoth c q.1 q.2 (hn.1 _ hc) (fun z => xl' (z ▸ hc))
  · rw [e3]
    have hfr := h.fr
    rcases hx with ⟨rfl, _, q0⟩ | ⟨rfl, rfl, _, _, _, q2⟩
    · rw [q0]; exact fch_same F1 _ hfr.2 hF
    · rw [q2]; exact hfr
end
end Go.Proofs.Ytmnbilhblkobdaa


/- A room with two lists, as plain data (layer 21), pure: a key fewer, and a list emptied. No statement of the seat is proved here. -/
namespace Go.Proofs.Ytmnbilhblkobdaa
open Go.RowKit

section
variable {W W' : List Int} {n l l' : Nat} {N N' A B C : List (Nat × Int)} {F : List Nat}
theorem pc_le (c : Nat) : c ≤ pc c + 1 ∧ pc c ≤ c := by unfold pc; omega
theorem lastL_odd : ∀ (A : List (Nat × Int)) (k : Nat), Ev A → k % 2 = 1 → lastL k A % 2 = 1
  | [], _, _, h => h
  | (a, ka) :: A, _, h1, _ => lastL_odd A (a + 1) (fun p hp => h1 p (by simp [hp])) (by have := h1 (a, ka) (by simp); simp only at this; omega)
theorem lastL_ge : ∀ (A : List (Nat × Int)) (k : Nat), (∀ p ∈ A, 18 ≤ p.1) → 18 ≤ k → 18 ≤ lastL k A
  | [], _, _, h => h
  | (a, ka) :: A, _, h1, _ => lastL_ge A (a + 1) (fun p hp => h1 p (by simp [hp])) (by have := h1 (a, ka) (by simp); simp only at this; omega)
theorem Rm2.last (h : Rm2 W n l (A ++ C) l' N' F) : lastL (l + 1) A % 2 = 1 ∧ lastL (l + 1) A < n ∧ 18 ≤ lastL (l + 1) A ∧ pc (lastL (l + 1) A) ∈ l :: A.map Prod.fst := by
  have hev := h.evA
  have hin := h.inb
  have hevA : Ev A := fun p hp => hev.1 p (by simp [hp])
  have q := lastL_pc A (l + 1) hevA
  rw [(pc_even hev.2.1).2] at q
  exact ⟨lastL_odd A _ hevA (by omega), lastL_lt A (l + 1) hin.2.1 (fun p hp => (hin.1 p (by simp [hp])).1), lastL_ge A _ (fun p hp => (hin.1 p (by simp [hp])).2) (by omega), q⟩
theorem Rm2.mem (h : Rm2 W n l N l' N' F) : ∀ c, pc c ∈ l :: N.map Prod.fst → 18 ≤ c ∧ c < n := by
  intro c hc
  have hin := h.inb
  have q := pc_le c
  simp only [List.mem_cons, List.mem_map] at hc
  rcases hc with z | ⟨p, hp, z⟩
  · omega
  · have := hin.1 p hp; omega
/-- A key fewer: the words behind it. -/
theorem Rm2.less {x : Nat} {k : Int} (h : Rm2 W n l (A ++ (x, k) :: B) l' N' F) (hlen : W'.length = n) (hws : ∀ y ∈ W', isW y)
    (hW : ∀ c, c < n → oat W' c = if c = 3 then (x : Int) + 1 else if c = x then oat W 3 else if c = l then ((A ++ B).length : Int) else if c = lastL (l + 1) A then oat W (x + 1) else oat W c) :
    Rm2 W' n l (A ++ B) l' N' (x :: F) := by
  have hev := h.evA
  have hin := h.inb
  have hn := h.nin
  have hla := h.last
  have hmem := h.mem
  have hmem' := h.swap.mem
  have hevA : Ev A := fun p hp => hev.1 p (by simp [hp])
  have hevB : Ev B := fun p hp => hev.1 p (by simp [hp])
  have xe : x % 2 = 0 := hev.1 (x, k) (by simp)
  have x18 : x + 1 < n ∧ 18 ≤ x := hin.1 (x, k) (by simp)
  have hpx := pc_even xe
  have hpl := pc_even hev.2.1
  have hnd := hn.2.2.2.1
  rw [List.map_append, ← List.cons_append, List.map_cons] at hnd
  have hnd2 := List.nodup_append.1 hnd
  have hndB := List.nodup_cons.1 hnd2.2.1
  have hxA : x ∉ l :: A.map Prod.fst := fun q => hnd2.2.2 x q x (by simp) rfl
  have hBA : ∀ a ∈ B.map Prod.fst, a ∉ l :: A.map Prod.fst := fun a ha q => hnd2.2.2 a q a (by simp only [List.mem_cons]; exact .inr ha) rfl
  have hxl : x ≠ l := fun q => hxA (by rw [q]; simp)
  have hl18 := hin.2.2.1
  have hlL : l ≠ lastL (l + 1) A := by omega
  have hxL : x ≠ lastL (l + 1) A := by omega
  have hx1L : x + 1 ≠ lastL (l + 1) A := fun q => hxA (by rw [← hpx.2, q]; exact hla.2.2.2)
  have hkeep : ∀ c, 18 ≤ c → c < n → pc c ≠ x → c ≠ l → c ≠ lastL (l + 1) A → oat W' c = oat W c := by
    intro c h1 h2 h3 h4 h5
    rw [hW c h2, if_neg (by omega), if_neg, if_neg h4, if_neg h5]
    intro z; rw [z, hpx.1] at h3; exact h3 rfl
  have e0 : oat W' 0 = oat W 0 := by rw [hW 0 (by omega), if_neg (by omega), if_neg (by omega), if_neg (by omega), if_neg (by omega)]
  have e1 : oat W' 1 = oat W 1 := by rw [hW 1 (by omega), if_neg (by omega), if_neg (by omega), if_neg (by omega), if_neg (by omega)]
  have e3 : oat W' 3 = (x : Int) + 1 := by rw [hW 3 (by omega), if_pos rfl]
  have ex : oat W' x = oat W 3 := by rw [hW x (by omega), if_neg (by omega), if_pos rfl]
  have hpm : (pcs l (A ++ B) l' N' (x :: F)).Perm (pcs l (A ++ (x, k) :: B) l' N' F) := (pcs_free l x (A ++ B) l' N' F).trans (pcs_ins l x k A B l' N' F).symm
  have hF : ∀ a ∈ F, oat W' a = oat W a := by
    intro a ha
    have q := hin.2.2.2 a ha
    have z := (h.ev a (by unfold pcs; simp only [List.mem_append]; exact .inr (.inr ha))).1
    have hno := hn.2.1 a ha
    have hp := (pc_even z).1
    refine hkeep a q.2 (by omega) ?_ ?_ ?_
    · rw [hp]; intro y; exact hno (by rw [y]; simp)
    · intro y; exact hno (by rw [y]; simp)
    · omega
  refine ⟨hlen, h.n40, h.n200, hws, e1.trans h.w1, ?_, by rw [e0]; exact h.w0n, hpm.nodup_iff.2 h.nd, fun a ha => by rw [e0]; exact h.ev a (hpm.mem_iff.1 ha), ⟨?_, ?_, ?_, ?_⟩, ?_, ?_, ?_⟩
  · rw [e0, hpm.length_eq]; exact h.w0
  · rw [hW l (by omega), if_neg (by omega), if_neg (Ne.symm hxl), if_pos rfl]
  · have htl := path_tail A (l + 1) h.la.pth
    refine path_splice (W := W) (B := (x, k) :: B) (e := 0) A (l + 1) hevA (by rw [hpl.2]; exact hnd2.1) h.la.pth (fun c hc1 hc2 hc3 => ?_) ?_
    · rw [hpl.2] at hc1 hc3
      have q := hmem c (by simp only [List.map_append, List.mem_cons, List.mem_append] at hc1 ⊢; rcases hc1 with z | z; exact .inl z; exact .inr (.inl z))
      refine hkeep c q.1 q.2 (fun z => hxA (z ▸ hc1)) ?_ hc2
      rcases hc3 with z | z
      · exact z
      · omega
    · refine path_relink B (x + 1) (lastL (l + 1) A) hevB htl.2.2 ?_ (fun c hc => ?_)
      · rw [hW _ hla.2.1, if_neg (by omega), if_neg (Ne.symm hxL), if_neg (Ne.symm hlL), if_pos rfl]
      · have q := hmem c (by simp only [List.map_append, List.map_cons, List.mem_cons, List.mem_append]; exact .inr (.inr (.inr hc)))
        refine hkeep c q.1 q.2 (fun z => hndB.1 (z ▸ hc)) (fun z => ?_) (fun z => ?_)
        · rw [z, hpl.1] at hc; exact hBA l hc (by simp)
        · rw [z] at hc; exact hBA _ hc hla.2.2.2
  · have q := h.la.up
    rw [List.map_append, List.map_cons] at q
    rw [List.map_append]
    have q2 := List.pairwise_append.1 q
    exact List.pairwise_append.2 ⟨q2.1, (List.pairwise_cons.1 q2.2.1).2, fun a ha b hb => q2.2.2 a ha b (by simp only [List.mem_cons]; exact .inr hb)⟩
  · intro p hp
    refine h.la.kw p ?_
    simp only [List.mem_append, List.mem_cons] at hp ⊢
    rcases hp with z | z
    · exact .inl z
    · exact .inr (.inr z)
  · refine h.lb.same hev.2.2.2 hev.2.2.1 (fun c hc => ?_)
    have q := hmem' c hc
    have hno := hn.1 _ hc
    refine hkeep c q.1 q.2 (fun z => hno (by rw [z]; simp)) (fun z => hno (by rw [z, hpl.1]; simp)) (fun z => hno ?_)
    rw [z]
    simp only [List.map_append, List.mem_cons, List.mem_append]
    have := hla.2.2.2
    simp only [List.mem_cons] at this
    rcases this with y | y
    · exact .inl y
    · exact .inr (.inl y)
  · exact e3
  · rw [ex]; exact fch_same F _ h.fr hF
/-- Pieces given back, one behind the other. -/
structure Gvn (W W' : List Int) (n : Nat) (X F : List Nat) : Prop where
  len : W'.length = n
  ws : ∀ y ∈ W', isW y
  fr : fch W' (oat W' 3) (X.reverse ++ F)
  ke : ∀ c, c ≠ 3 → c ∉ X → oat W' c = oat W c
theorem Gvn.nil (h : Rm2 W n l N l' N' F) : Gvn W W n [] F := ⟨h.len, h.ws, h.fr, fun _ _ _ => rfl⟩
theorem Gvn.more {X : List Nat} {x : Nat} (h : Gvn W W' n X F) (x18 : 18 ≤ x) (xn : x < n) (n4 : 40 ≤ n ∧ n ≤ 200) (hx : x ∉ X) (hF : x ∉ F) (h3 : ∀ a ∈ X ++ F, a ≠ 3) : Gvn W ((W'.set x (oat W' 3)).set 3 ((x : Int) + 1)) n (X ++ [x]) F := by
  have e : ∀ c, oat ((W'.set x (oat W' 3)).set 3 ((x : Int) + 1)) c = if c = 3 then (x : Int) + 1 else if c = x then oat W' 3 else oat W' c := by
    intro c
    rw [oat_set, oat_set, List.length_set, h.len]
    by_cases q : c = 3
    · rw [if_pos ⟨q.symm, by omega⟩, if_pos q]
    · rw [if_neg (fun z => q z.1.symm), if_neg q]
      by_cases q2 : c = x
      · rw [if_pos ⟨q2.symm, by omega⟩, if_pos q2]
      · rw [if_neg (fun z => q2 z.1.symm), if_neg q2]
  refine ⟨by simp [h.len], fun y hy => ?_, ?_, fun c c3 cx => ?_⟩
  · rcases List.mem_or_eq_of_mem_set hy with h1 | h1
    · rcases List.mem_or_eq_of_mem_set h1 with h2 | h2
      · exact h.ws y h2
      · rw [h2]; exact oat_isW h.ws _
    · rw [h1]; exact ⟨by omega, by omega⟩
  · rw [List.reverse_append, List.reverse_singleton, List.singleton_append, List.cons_append, e 3, if_pos rfl]
    refine ⟨rfl, ?_⟩
    rw [e x, if_neg (by omega), if_pos rfl]
    refine fch_same _ _ h.fr (fun a ha => ?_)
    have ha2 : a ∈ X ++ F := by simp only [List.mem_append, List.mem_reverse] at ha ⊢; exact ha
    rw [e a, if_neg (h3 a ha2), if_neg]
    intro q
    rw [q] at ha2
    rcases List.mem_append.1 ha2 with z | z
    · exact hx z
    · exact hF z
  · rw [e c, if_neg c3, if_neg (fun q => cx (by rw [q]; simp))]
    exact h.ke c c3 (fun q => cx (by simp [q]))
/-- A list emptied: the words behind it. -/
theorem Rm2.emptied (h : Rm2 W n l N l' N' F) {V : List Int} (hg : Gvn W V n (N.map Prod.fst) F) (hlen : W'.length = n) (hws : ∀ y ∈ W', isW y) (hW : ∀ c, c < n → oat W' c = if c = l then 0 else if c = l + 1 then 0 else oat V c) : Rm2 W' n l [] l' N' ((N.map Prod.fst).reverse ++ F) := by
  have hev := h.evA
  have hin := h.inb
  have hn := h.nin
  have hmem' := h.swap.mem
  have hpl := pc_even hev.2.1
  have hnot : ∀ c, c < 18 → c ∉ N.map Prod.fst := by
    intro c hc hm
    obtain ⟨p, hp, q⟩ := List.mem_map.1 hm
    have := hin.1 p hp; omega
  have hlow : ∀ c, c < 18 → c ≠ 3 → oat W' c = oat W c := by
    intro c hc h3
    rw [hW c (by have := h.n40; omega), if_neg (by omega), if_neg (by omega)]
    exact hg.ke c h3 (hnot c hc)
  have hpm : (pcs l [] l' N' ((N.map Prod.fst).reverse ++ F)).Perm (pcs l N l' N' F) := by
    unfold pcs
    simp only [List.map_nil, List.cons_append, List.nil_append]
    refine List.Perm.cons l ?_
    have p1 : ((N'.map Prod.fst) ++ ((N.map Prod.fst).reverse ++ F)).Perm ((N.map Prod.fst) ++ ((N'.map Prod.fst) ++ F)) := by
      rw [← List.append_assoc, ← List.append_assoc]
      exact (List.perm_append_comm.trans ((List.reverse_perm _).append_right _)).append_right F
    exact (p1.cons l').trans List.perm_middle.symm
  have hn0 := h.w0
  refine ⟨hlen, h.n40, h.n200, hws, (hlow 1 (by omega) (by omega)).trans h.w1, ?_, by rw [hlow 0 (by omega) (by omega)]; exact h.w0n, hpm.nodup_iff.2 h.nd, fun a ha => by rw [hlow 0 (by omega) (by omega)]; exact h.ev a (hpm.mem_iff.1 ha), ⟨?_, ?_, ?_, ?_⟩, ?_, ?_⟩
  · rw [hlow 0 (by omega) (by omega), hpm.length_eq]; exact h.w0
  · rw [hW l (by omega), if_pos rfl]; rfl
  · show oat W' (l + 1) = 0
    rw [hW (l + 1) (by omega), if_neg (by omega), if_pos rfl]
  · exact List.Pairwise.nil
  · intro p hp; cases hp
  · refine h.lb.same hev.2.2.2 hev.2.2.1 (fun c hc => ?_)
    have q := hmem' c hc
    have hno := hn.1 _ hc
    rw [hW c q.2, if_neg (fun z => hno (by rw [z, hpl.1]; simp)), if_neg (fun z => hno (by rw [z, hpl.2]; simp))]
    refine hg.ke c (by omega) (fun z => hno ?_)
    obtain ⟨p, hp, y⟩ := List.mem_map.1 z
    have hpe := hev.1 p hp
    rw [← y, (pc_even hpe).1]
    simp only [List.mem_cons]
    exact .inr (List.mem_map.2 ⟨p, hp, rfl⟩)
  · rw [hW 3 (by have := h.n40; omega), if_neg (by omega), if_neg (by omega)]
    refine fch_same _ _ hg.fr (fun a ha => ?_)
    have hf : a ∈ pcs l [] l' N' ((N.map Prod.fst).reverse ++ F) := by unfold pcs; simp only [List.mem_append] at ha ⊢; exact .inr (.inr ha)
    have z := h.ev a (hpm.mem_iff.1 hf)
    have hal : a ≠ l := by
      have q := hpm.nodup_iff.2 h.nd
      unfold pcs at q
      simp only [List.map_nil, List.cons_append, List.nil_append] at q
      have q2 := (List.nodup_cons.1 q).1
      intro y
      exact q2 (by rw [← y]; simp only [List.mem_cons, List.mem_append] at ha ⊢; exact .inr (.inr ha))
    have hw0 := h.w0n
    rw [hW a (by omega), if_neg hal, if_neg (by omega)]
end
end Go.Proofs.Ytmnbilhblkobdaa


/- A room with two lists, as plain data (layer 21), pure: the calls over it. No statement of the seat is proved here. -/
namespace Go.Proofs.Ytmnbilhblkobdaa
open Go.RowKit

theorem oat_st {l : List Int} {c : Nat} (h : c < l.length) (i : Nat) (x : Int) : oat (l.set i x) c = if c = i then x else oat l c := by
  rw [oat_set]
  by_cases q : c = i
  · rw [if_pos ⟨q.symm, h⟩, if_pos q]
  · rw [if_neg (fun z => q z.1.symm), if_neg q]
theorem set_isW {l : List Int} (h : ∀ y ∈ l, isW y) (i : Nat) {x : Int} (hx : isW x) : ∀ y ∈ l.set i x, isW y := by
  intro y hy
  rcases List.mem_or_eq_of_mem_set hy with h1 | h1
  · exact h y h1
  · rw [h1]; exact hx
theorem put_at {s : Wd} (hf : s.f < 0) {a : Nat} (h : a < s.W.length) (x : Int) : ∃ s1, s.put a x = (0, s1) ∧ s1.W = s.W.set a x ∧ s1.f = s.f := by
  have q : ¬ (s.W.length : Int) ≤ (a : Int) := by omega
  rw [put_no hf, if_neg q]
  exact ⟨_, rfl, rfl, rfl⟩
theorem Lkd.rfl (s : Wd) : Lkd s s := ⟨Eq.refl _, Eq.refl _, Eq.refl _, Eq.refl _⟩
theorem nat_isW {a : Nat} (h : a < 1000000) : isW (a : Int) := ⟨by omega, by omega⟩
theorem uw_nat1 {a : Nat} (h : a < 1000000) : uw ((a : Int) + 1) = ((a + 1 : Nat) : Int) := by
  rw [uw_id ⟨by omega, by omega⟩]; omega
theorem ld_nat {a : Nat} (h : a < 1000000) : ld (a : Int) = ((a + 1 : Nat) : Int) := uw_nat1 h
theorem hd2 : hdA 0 2 = ((3 : Nat) : Int) := by kernel_rfl
theorem en0 : endA 0 = ((1 : Nat) : Int) := by kernel_rfl
theorem may2 : mayN 2 := ⟨by omega, by omega⟩
def spotB (L : Nat) : List (Nat × Int) → Sp
  | [] => ⟨L, 0, 0⟩
  | (x, k) :: _ => ⟨L, (x : Int) + 1, k⟩
section
variable {s : Wd} {n l l' : Nat} {N N' A B : List (Nat × Int)} {F : List Nat}
theorem Rm2.size (h : Rm2 s.W n l N l' N' F) : N.length ≤ 200 := by
  have q := h.w0
  have q2 := h.w0n
  have q3 := h.n200
  have : N.length ≤ (pcs l N l' N' F).length := by unfold pcs; simp; omega
  omega
theorem way_at (h : Rm2 s.W n l (A ++ B) l' N' F) (hf : s.f < 0) (pass : List Sp → Sp → Bool)
    (hps : ∀ i (h : i < A.length), pass ((spots (l + 1) A).take i) ((spots (l + 1) A)[i]'(by rw [spots_len]; exact h)) = true)
    (hst : ∀ x k B', B = (x, k) :: B' → pass (spots (l + 1) A) ⟨lastL (l + 1) A, (x : Int) + 1, k⟩ = false) :
    ∃ s', Lkd s s' ∧ s.way pass l = ((spotB (lastL (l + 1) A) B, 0), spots (l + 1) A, s') := by
  have hsz := h.size
  have hin := h.inb
  have hn := h.n200
  have hl := h.len
  have hla := h.last
  rw [List.length_append] at hsz
  obtain ⟨m, hm⟩ : ∃ m, FU = A.length + (m + 1) := ⟨FU - A.length - 1, by unfold FU; omega⟩
  obtain ⟨b', s1, l1, e1, hb⟩ := way_pass pass B A (m + 1) (l + 1) Sp.zero [] s hf (by omega) h.la.pth (by omega) (fun p hp => by have := hin.1 p hp; omega) h.la.up (fun q => absurd (Eq.refl _) q) (fun i hi => by rw [List.nil_append]; exact hps i hi)
  unfold Wd.way
  rw [ld_nat (by omega), hm, e1, List.nil_append]
  have htl := path_tail A (l + 1) h.la.pth
  rw [← l1.1] at htl
  have hf1 : s1.f < 0 := by rw [l1.2.1]; exact hf
  have hLn : lastL (l + 1) A < s1.W.length := by rw [l1.1, hl]; exact hla.2.1
  cases B with
  | nil =>
    obtain ⟨s2, e2, l2⟩ := follow_end hf1 hLn htl
    exact ⟨s2, l1.trans l2, way_end e2 (.inr rfl)⟩
  | cons p B =>
    obtain ⟨x, k⟩ := p
    have hx := hin.1 (x, k) (by simp)
    obtain ⟨s2, e2, l2⟩ := follow_node hf1 hLn (by rw [l1.1, hl]; omega) (by rw [l1.1, hl]; omega) htl.1 htl.2.1
    have h0 : (x : Int) + 1 ≠ 0 := by omega
    refine ⟨s2, l1.trans l2, way_stop e2 h0 (fun q => ?_) (hst x k B (Eq.refl _))⟩
    have := hb q.1 (x, k) (by simp)
    have q2 : k ≤ b'.k := q.2
    simp only at this
    omega
theorem split_lt (key : Int) : ∀ (N : List (Nat × Int)), (N.map Prod.snd).Pairwise (· < ·) → ∃ A B, N = A ++ B ∧ (∀ p ∈ A, p.2 < key) ∧ ∀ p ∈ B, key ≤ p.2
  | [], _ => ⟨[], [], rfl, ⟨by simp, by simp⟩⟩
  | p :: N, h => by
    have h2 := List.pairwise_cons.1 (show (p.2 :: N.map Prod.snd).Pairwise (· < ·) from h)
    by_cases q : p.2 < key
    · obtain ⟨A, B, e, ha, hb⟩ := split_lt key N h2.2
      refine ⟨p :: A, B, by rw [e]; rfl, fun r hr => ?_, hb⟩
      rcases List.mem_cons.1 hr with z | z
      · rw [z]; exact q
      · exact ha r z
    · refine ⟨[], p :: N, rfl, by simp, fun r hr => ?_⟩
      rcases List.mem_cons.1 hr with z | z
      · rw [z]; omega
      · have := h2.1 r.2 (List.mem_map.2 ⟨r, z, rfl⟩); omega
theorem spots_mem : ∀ (A : List (Nat × Int)) (link i : Nat) (h : i < (spots link A).length), ∃ p ∈ A, ((spots link A)[i]).k = p.2
  | [], _, i, h => absurd h (by simp [spots])
  | (a, k) :: A, link, 0, h => ⟨(a, k), by simp, rfl⟩
  | (a, k) :: A, link, i + 1, h => by
    obtain ⟨p, hp, e⟩ := spots_mem A (a + 1) i (by simpa [spots] using h)
    exact ⟨p, by simp [hp], by simpa [spots] using e⟩
theorem seek_at (h : Rm2 s.W n l (A ++ B) l' N' F) (hf : s.f < 0) {key : Int} (ha : ∀ p ∈ A, p.2 < key) (hb : ∀ p ∈ B, key ≤ p.2) : ∃ s', Lkd s s' ∧ s.seek l key = ((spotB (lastL (l + 1) A) B, 0), s') := by
  obtain ⟨s1, l1, e1⟩ := way_at h hf (pLt key) (fun i hi => by
    obtain ⟨p, hp, e⟩ := spots_mem A (l + 1) i (by rw [spots_len]; exact hi)
    unfold pLt
    rw [e]
    exact decide_eq_true (ha p hp)) (fun x k B' e => by
    have := hb (x, k) (by rw [e]; simp)
    unfold pLt
    simp only at this ⊢
    exact decide_eq_false (by omega))
  refine ⟨s1, l1, ?_⟩
  unfold Wd.seek
  rw [e1]
theorem above_at (h : Rm2 s.W n l (A ++ B) l' N' F) (hf : s.f < 0) {key : Int} (ha : ∀ p ∈ A, p.2 ≤ key) (hb : ∀ p ∈ B, key < p.2) : ∃ s', Lkd s s' ∧ s.above l key = (((spotB (lastL (l + 1) A) B).k, (spotB (lastL (l + 1) A) B).there, 0), s') := by
  obtain ⟨s1, l1, e1⟩ := way_at h hf (pLe key) (fun i hi => by
    obtain ⟨p, hp, e⟩ := spots_mem A (l + 1) i (by rw [spots_len]; exact hi)
    unfold pLe
    rw [e]
    exact decide_eq_true (ha p hp)) (fun x k B' e => by
    have := hb (x, k) (by rw [e]; simp)
    unfold pLe
    simp only at this ⊢
    exact decide_eq_false (by omega))
  refine ⟨s1, l1, ?_⟩
  unfold Wd.above
  rw [e1]
theorem first_at (h : Rm2 s.W n l N l' N' F) (hf : s.f < 0) : ∃ s', Lkd s s' ∧ s.first l = (((spotB (l + 1) N).k, (spotB (l + 1) N).there, 0), s') := by
  obtain ⟨s1, l1, e1⟩ := way_at (A := []) h hf pNo (fun i hi => absurd hi (by simp)) (fun x k B' e => rfl)
  refine ⟨s1, l1, ?_⟩
  unfold Wd.first
  rw [e1]
  rfl
theorem len_at (h : Rm2 s.W n l N l' N' F) (hf : s.f < 0) : ∃ s', Lkd s s' ∧ s.len l = (((N.length : Int), 0), s') := by
  have hin := h.inb
  obtain ⟨s1, e1, l1⟩ := get_at (a := l) hf (by rw [h.len]; omega)
  rw [h.la.cnt] at e1
  refine ⟨s1, l1, ?_⟩
  unfold Wd.len
  rw [e1]
  exact if_neg (fun q => q rfl)
theorem all_at (h : Rm2 s.W n l N l' N' F) (hf : s.f < 0) : ∃ s', Lkd s s' ∧ s.all l = ((spots (l + 1) N, 0), s') := by
  have hin := h.inb
  obtain ⟨s1, e1, l1⟩ := get_at (a := l) hf (by rw [h.len]; omega)
  rw [h.la.cnt] at e1
  have h1 : Rm2 s1.W n l (N ++ []) l' N' F := by rw [l1.1, List.append_nil]; exact h
  obtain ⟨s2, l2, e2⟩ := way_at h1 (by rw [l1.2.1]; exact hf) (pAll (N.length : Int)) (fun i hi => by
    unfold pAll
    rw [List.length_take, spots_len]
    exact decide_eq_true (by omega)) (fun x k B' e => by cases e)
  refine ⟨s2, l1.trans l2, ?_⟩
  unfold Wd.all
  simp only [e1, e2]
  rw [if_neg (fun q => q rfl), if_neg (fun q => q rfl), if_neg]
  rw [spots_len]
  rintro (q | q)
  · exact q rfl
  · exact q rfl
theorem keys_at (h : Rm2 s.W n l N l' N' F) (hf : s.f < 0) : ∃ s', Lkd s s' ∧ s.keys l = ((N.map Prod.snd, 0), s') := by
  obtain ⟨s1, l1, e1⟩ := all_at h hf
  refine ⟨s1, l1, ?_⟩
  unfold Wd.keys
  rw [e1, if_neg (fun q => q rfl), spots_keys]
/-- A piece taken. -/
structure Tk (s s1 : Wd) (n : Nat) (F : List Nat) (x : Nat) (F1 : List Nat) (h0 h3 : Int) : Prop where
  len : s1.W.length = n
  ws : ∀ y ∈ s1.W, isW y
  f : s1.f = s.f
  hx : (F = x :: F1 ∧ h0 = oat s.W 0 ∧ h3 = oat s.W x) ∨ (F = [] ∧ F1 = [] ∧ (x : Int) = oat s.W 0 ∧ (x : Int) + 2 ≤ n ∧ h0 = (x : Int) + 2 ∧ h3 = oat s.W 3)
  at_ : ∀ c, c < n → oat s1.W c = if c = 3 then h3 else if c = 0 then h0 else oat s.W c
theorem take_at (h : Rm2 s.W n l N l' N' F) (hf : s.f < 0) : (∃ (x : Nat) (F1 : List Nat) (h0 h3 : Int) (s1 : Wd), s.take 0 2 = (((x : Int), 0), s1) ∧ Tk s s1 n F x F1 h0 h3) ∨ (∃ s1, s.take 0 2 = ((0, 9), s1) ∧ Lkd s s1 ∧ F = [] ∧ (n : Int) < oat s.W 0 + 2) := by
  have hl := h.len
  have h40 := h.n40
  have h200 := h.n200
  have hin := h.inb
  have hw0 := h.w0
  have hw0n := h.w0n
  obtain ⟨s1, e1, l1⟩ := get_at (a := 3) hf (by omega)
  have hf1 : s1.f < 0 := by rw [l1.2.1]; exact hf
  have hfr := h.fr
  have m2 : ¬ ¬ mayN 2 := fun q => q may2
  cases F with
  | nil =>
    have h3 : oat s.W 3 = 0 := hfr
    obtain ⟨s2, e2, l2⟩ := get_at (s := s1) (a := 0) hf1 (by rw [l1.1]; omega)
    have hf2 : s2.f < 0 := by rw [l2.2.1]; exact hf1
    obtain ⟨s3, e3, l3⟩ := get_at (s := s2) (a := 1) hf2 (by rw [l2.1, l1.1]; omega)
    have hf3 : s3.f < 0 := by rw [l3.2.1]; exact hf2
    have lk := (l1.trans l2).trans l3
    rw [l1.1] at e2
    rw [l2.1, l1.1, h.w1] at e3
    obtain ⟨x, hx⟩ : ∃ x : Nat, oat s.W 0 = (x : Int) := ⟨(oat s.W 0).toNat, by omega⟩
    rw [hx] at e2 hw0 hw0n
    have hfree : s1.free 0 = ((((x : Int)), (n : Int) - x, 0), s3) := by
      unfold Wd.free
      rw [en0]
      have e2' : s1.get 0 = ((((x : Int)), 0), s2) := e2
      simp only [e2', e3, ne_eq, not_true_eq_false, if_false]
      by_cases q : (x : Int) < (n : Int)
      · rw [if_pos q, uw_id ⟨by omega, by omega⟩]
      · rw [if_neg q, show (n : Int) - x = 0 by omega]
    by_cases hroom : (x : Int) + 2 ≤ n
    · left
      obtain ⟨s4, e4, p4, pf4⟩ := put_at (s := s3) (a := 0) hf3 (by rw [lk.1]; omega) ((x : Int) + 2)
      refine ⟨x, [], (x : Int) + 2, oat s.W 3, s4, ?_, ⟨by rw [p4, lk.1, List.length_set]; exact hl, ?_, by rw [pf4, lk.2.1], .inr ⟨rfl, rfl, hx.symm, hroom, rfl, rfl⟩, fun c hc => ?_⟩⟩
      · unfold Wd.take
        rw [if_neg m2, hd2, e1, h3, if_neg (fun q => q rfl), if_pos rfl]
        unfold Wd.takeN
        have e4' : s3.put 0 ((x : Int) + 2) = (0, s4) := e4
        simp only [hfree]
        rw [if_neg (fun q => q rfl), if_neg (by omega), uw_id (x := (x : Int) + 2) ⟨by omega, by omega⟩, e4', if_neg (fun q => q rfl)]
      · rw [p4, lk.1]; exact set_isW h.ws 0 ⟨by omega, by omega⟩
      · rw [p4, lk.1, oat_st (by omega)]
        by_cases q : c = 3
        · rw [if_neg (by omega), if_pos q, q]
        · rw [if_neg q]
    · right
      refine ⟨s3, ?_, lk, rfl, by omega⟩
      unfold Wd.take
      rw [if_neg m2, hd2, e1, h3, if_neg (fun q => q rfl), if_pos rfl]
      unfold Wd.takeN
      simp only [hfree]
      rw [if_neg (fun q => q rfl), if_pos (by omega)]
  | cons x F1 =>
    left
    have hx := hin.2.2.2 x (by simp)
    have h3 : oat s.W 3 = (x : Int) + 1 := hfr.1
    obtain ⟨s2, e2, l2⟩ := get_at (s := s1) (a := x) hf1 (by rw [l1.1]; omega)
    have hf2 : s2.f < 0 := by rw [l2.2.1]; exact hf1
    rw [l1.1] at e2
    have lk := l1.trans l2
    obtain ⟨s4, e4, p4, pf4⟩ := put_at (s := s2) (a := 3) hf2 (by rw [lk.1]; omega) (oat s.W x)
    refine ⟨x, F1, oat s.W 0, oat s.W x, s4, ?_, ⟨by rw [p4, lk.1, List.length_set]; exact hl, ?_, by rw [pf4, lk.2.1], .inl ⟨rfl, rfl, rfl⟩, fun c hc => ?_⟩⟩
    · unfold Wd.take
      have h0 : (x : Int) + 1 ≠ 0 := by omega
      have e : uw ((x : Int) + 1 - 1) = x := by rw [show (x : Int) + 1 - 1 = x by omega]; exact uw_id ⟨by omega, by omega⟩
      rw [if_neg m2, hd2, e1, h3, if_neg (fun q => q rfl), if_neg h0]
      unfold Wd.takeG
      simp only [e, e2, e4, ne_eq, not_true_eq_false, if_false]
    · rw [p4, lk.1]; exact set_isW h.ws 3 (oat_isW h.ws x)
    · rw [p4, lk.1, oat_st (by omega)]
      by_cases q : c = 3
      · rw [if_pos q, if_pos q]
      · rw [if_neg q, if_neg q]
        by_cases q0 : c = 0
        · rw [if_pos q0, q0]
        · rw [if_neg q0]
theorem give_at {V : List Int} {X : List Nat} {x : Nat} (hf : s.f < 0) (hg : Gvn V s.W n X F) (n4 : 40 ≤ n ∧ n ≤ 200) (xn : x < n) : ∃ s1, s.give 0 x 2 = (0, s1) ∧ s1.f = s.f ∧ s1.W = (s.W.set x (oat s.W 3)).set 3 ((x : Int) + 1) := by
  have hl := hg.len
  have m2 : ¬ ¬ mayN 2 := fun q => q may2
  obtain ⟨s1, e1, l1⟩ := get_at (a := 3) hf (by omega)
  obtain ⟨s2, e2, p2, pf2⟩ := put_at (s := s1) (a := x) (by rw [l1.2.1]; exact hf) (by rw [l1.1]; omega) (oat s.W 3)
  obtain ⟨s3, e3, p3, pf3⟩ := put_at (s := s2) (a := 3) (by rw [pf2, l1.2.1]; exact hf) (by rw [p2, List.length_set, l1.1]; omega) ((x : Int) + 1)
  refine ⟨s3, ?_, by rw [pf3, pf2, l1.2.1], by rw [p3, p2, l1.1]⟩
  unfold Wd.give
  rw [if_neg m2, hd2]
  simp only [e1, e2, ne_eq, not_true_eq_false, if_false]
  rw [uw_id (x := (x : Int) + 1) ⟨by omega, by omega⟩, e3]
end
end Go.Proofs.Ytmnbilhblkobdaa


/- A room with two lists, as plain data (layer 21), pure: Insert, Remove, Clear, Drop over it. No statement of the seat is proved here. -/
namespace Go.Proofs.Ytmnbilhblkobdaa
open Go.RowKit

section
variable {s : Wd} {n l l' : Nat} {N N' A B : List (Nat × Int)} {F : List Nat} {key : Int}
theorem head_or (hup : ((A ++ B).map Prod.snd).Pairwise (· < ·)) (hb : ∀ p ∈ B, key ≤ p.2) : (∃ y B', B = (y, key) :: B') ∨ ∀ p ∈ B, key < p.2 := by
  cases B with
  | nil => exact .inr (by simp)
  | cons p B =>
    obtain ⟨y, k⟩ := p
    by_cases q : k = key
    · exact .inl ⟨y, B, by rw [q]⟩
    · right
      have h1 := hb (y, k) (by simp)
      simp only at h1
      rw [List.map_append, List.map_cons] at hup
      have h2 := (List.pairwise_cons.1 (List.pairwise_append.1 hup).2.1).1
      intro r hr
      rcases List.mem_cons.1 hr with z | z
      · rw [z]; simp only; omega
      · have := h2 r.2 (List.mem_map.2 ⟨r, z, rfl⟩); simp only at this; omega
theorem spot_has (L y : Nat) (B' : List (Nat × Int)) : (spotB L ((y, key) :: B')).has key = true := by
  unfold Sp.has spotB
  have : (y : Int) + 1 ≠ 0 := by omega
  simp [this]
theorem spot_no (L : Nat) (hb : ∀ p ∈ B, key < p.2) : (spotB L B).has key = false := by
  cases B with
  | nil => rfl
  | cons p B =>
    obtain ⟨y, k⟩ := p
    have := hb (y, k) (by simp)
    simp only at this
    have h2 : k ≠ key := by omega
    unfold Sp.has spotB
    simp [h2]
theorem spot_n {L : Nat} {W : List Int} (h : pathE W L B 0) : (spotB L B).n = oat W L ∧ (spotB L B).l = L := by
  cases B with
  | nil => exact ⟨h.symm, rfl⟩
  | cons p B => exact ⟨h.1.symm, rfl⟩
theorem Rm2.spot (h : Rm2 s.W n l N l' N' F) {s1 : Wd} {x : Nat} {F1 : List Nat} {h0 h3 : Int} (t : Tk s s1 n F x F1 h0 h3) : x % 2 = 0 ∧ 18 ≤ x ∧ x + 1 < n ∧ x ∉ l :: N.map Prod.fst := by
  have hin := h.inb
  have hn := h.nin
  have hh := t.hx
  have q0 := h.w0
  rcases hh with ⟨e, _, _⟩ | ⟨e, _, hx0, hx2, _, _⟩
  · have hm : x ∈ F := by rw [e]; simp
    have q := h.ev x (by unfold pcs; simp only [List.mem_append]; exact .inr (.inr hm))
    exact ⟨q.1, q.2.1, (hin.2.2.2 x hm).1, hn.2.1 x hm⟩
  · refine ⟨by omega, by omega, by omega, fun z => ?_⟩
    have := (h.ev x (by unfold pcs; simp only [List.mem_append]; exact .inl z)).2.2
    omega
theorem insert_has (h : Rm2 s.W n l (A ++ B) l' N' F) (hf : s.f < 0) (ha : ∀ p ∈ A, p.2 < key) {y : Nat} {B' : List (Nat × Int)} (hB : B = (y, key) :: B') (hb : ∀ p ∈ B, key ≤ p.2) : ∃ s', Lkd s s' ∧ s.insert 0 l key = ((false, 0), s') := by
  obtain ⟨s1, l1, e1⟩ := seek_at h hf ha hb
  refine ⟨s1, l1, ?_⟩
  unfold Wd.insert
  simp only [e1]
  rw [if_pos (.inr (by rw [hB]; exact spot_has _ y B'))]
theorem insert_at (h : Rm2 s.W n l (A ++ B) l' N' F) (hf : s.f < 0) (hk : isW key) (ha : ∀ p ∈ A, p.2 < key) (hb : ∀ p ∈ B, key < p.2) :
    (∃ s' x F1, s.insert 0 l key = ((true, 0), s') ∧ s'.f = s.f ∧ Rm2 s'.W n l (A ++ (x, key) :: B) l' N' F1 ∧ (F ≠ [] ∨ oat s.W 0 + 2 ≤ n)) ∨ (∃ s', Lkd s s' ∧ s.insert 0 l key = ((false, 9), s') ∧ F = [] ∧ (n : Int) < oat s.W 0 + 2) := by
  obtain ⟨s1, l1, e1⟩ := seek_at h hf ha (fun p hp => by have := hb p hp; omega)
  have hno := spot_no (lastL (l + 1) A) hb
  have h1 : Rm2 s1.W n l (A ++ B) l' N' F := by rw [l1.1]; exact h
  have hf1 : s1.f < 0 := by rw [l1.2.1]; exact hf
  have hla := h.last
  have hin := h.inb
  have hev := h.evA
  have hn2 := h.n200
  have hsz := h.size
  rcases take_at h1 hf1 with ⟨x, F1, h0, h3, s2, e2, tk⟩ | ⟨s2, e2, l2, hF, hn⟩
  · left
    obtain ⟨xe, x18, xn, xl⟩ := h1.spot tk
    have hsp := spot_n (path_tail A (l + 1) h1.la.pth)
    generalize hL : lastL (l + 1) A = L at *
    have hpl := pc_even hev.2.1
    have hpx := pc_even xe
    have hxl : x ≠ l := fun q => xl (by rw [q]; simp)
    have hx1L : x + 1 ≠ L := fun q => xl (by
      have := hla.2.2.2
      rw [← q, hpx.2] at this
      simp only [List.map_append, List.mem_cons, List.mem_append] at this ⊢
      rcases this with z | z
      · exact .inl z
      · exact .inr (.inl z))
    have hl2 := tk.len
    have hf2 : s2.f < 0 := by rw [tk.f]; exact hf1
    obtain ⟨s3, e3, p3, f3⟩ := put_at (s := s2) (a := x) hf2 (by omega) key
    obtain ⟨s4, e4, p4, f4⟩ := put_at (s := s3) (a := x + 1) (by rw [f3]; exact hf2) (by rw [p3, List.length_set]; omega) (oat s1.W L)
    obtain ⟨s5, e5, p5, f5⟩ := put_at (s := s4) (a := L) (by rw [f4, f3]; exact hf2) (by rw [p4, p3, List.length_set, List.length_set]; omega) ((x + 1 : Nat) : Int)
    have hl5 : s5.W.length = n := by rw [p5, p4, p3]; simp [hl2]
    have hf5 : s5.f < 0 := by rw [f5, f4, f3]; exact hf2
    obtain ⟨s6, e6, l6⟩ := get_at (s := s5) (a := l) hf5 (by omega)
    have hW5 : ∀ c, c < n → oat s5.W c = if c = L then (x : Int) + 1 else if c = x + 1 then oat s1.W L else if c = x then key else if c = 3 then h3 else if c = 0 then h0 else oat s1.W c := by
      intro c hc
      rw [p5, oat_st (by rw [p4, p3]; simp; omega), p4, oat_st (by rw [p3]; simp; omega), p3, oat_st (by omega), tk.at_ c hc]
      rfl
    have hcnt : oat s5.W l = ((A ++ B).length : Int) := by
      rw [hW5 l (by omega), if_neg (by omega), if_neg (by omega), if_neg (Ne.symm hxl), if_neg (by omega), if_neg (by omega)]
      exact h1.la.cnt
    rw [hcnt] at e6
    obtain ⟨s7, e7, p7, f7⟩ := put_at (s := s6) (a := l) (by rw [l6.2.1]; exact hf5) (by rw [l6.1]; omega) (((A ++ B).length : Int) + 1)
    have hhang : s2.hang (spotB L B) x key = (0, s5) := by
      unfold Wd.hang
      rw [e3]
      simp only [ne_eq, not_true_eq_false, if_false]
      rw [ld_nat (by omega), hsp.1, hsp.2, e4]
      simp only [not_true_eq_false, if_false]
      rw [uw_nat1 (by omega)]
      exact e5
    have hrec : s5.recount l 1 = (0, s7) := by
      unfold Wd.recount
      rw [e6]
      simp only [ne_eq, not_true_eq_false, if_false]
      rw [uw_id (x := ((A ++ B).length : Int) + 1) ⟨by omega, by omega⟩]
      exact e7
    refine ⟨s7, x, F1, ?_, by rw [f7, l6.2.1, f5, f4, f3, tk.f, l1.2.1], ?_, ?_⟩
    · unfold Wd.insert
      simp only [e1, e2, hhang, hrec]
      rw [if_neg, if_neg (fun q => q rfl), if_neg (fun q => q rfl)]
      · rfl
      · rintro (q | q)
        · exact q rfl
        · rw [hno] at q; cases q
    · refine h1.more hk tk.hx ?_ (by rw [p7, List.length_set, l6.1]; exact hl5) ?_ ?_
      · have hup := h.la.up
        rw [List.map_append] at hup ⊢
        have q := List.pairwise_append.1 hup
        refine List.pairwise_append.2 ⟨q.1, ?_, ?_⟩
        · rw [List.map_cons]
          exact List.pairwise_cons.2 ⟨fun a hm => by obtain ⟨p, hp, e⟩ := List.mem_map.1 hm; have := hb p hp; rw [← e]; exact this, q.2.1⟩
        · intro a hm b hm2
          rw [List.map_cons] at hm2
          obtain ⟨p, hp, e⟩ := List.mem_map.1 hm
          have h9 := ha p hp
          rcases List.mem_cons.1 hm2 with z | z
          · rw [z, ← e]; exact h9
          · exact q.2.2 a hm b z
      · rw [p7, l6.1, p5, p4, p3]
        exact set_isW (set_isW (set_isW (set_isW tk.ws _ hk) _ (oat_isW h1.ws _)) _ (nat_isW (by omega))) _ ⟨by omega, by omega⟩
      · intro c hc
        rw [p7, l6.1, oat_st (by omega), hW5 c hc, hL]
    · rcases tk.hx with ⟨q, _, _⟩ | ⟨_, _, q1, q2, _, _⟩
      · exact .inl (by rw [q]; simp)
      · rw [l1.1] at q1; exact .inr (by omega)
  · right
    rw [l1.1] at hn
    refine ⟨s2, l1.trans l2, ?_, hF, hn⟩
    unfold Wd.insert
    simp only [e1, e2]
    rw [if_neg, if_pos (by decide)]
    rintro (q | q)
    · exact q rfl
    · rw [hno] at q; cases q
theorem remove_no (h : Rm2 s.W n l (A ++ B) l' N' F) (hf : s.f < 0) (ha : ∀ p ∈ A, p.2 < key) (hb : ∀ p ∈ B, key < p.2) : ∃ s', Lkd s s' ∧ s.remove 0 l key = ((false, 0), s') := by
  obtain ⟨s1, l1, e1⟩ := seek_at h hf ha (fun p hp => by have := hb p hp; omega)
  refine ⟨s1, l1, ?_⟩
  unfold Wd.remove
  simp only [e1]
  rw [if_pos (.inr (spot_no _ hb))]
theorem remove_at {x : Nat} (h : Rm2 s.W n l (A ++ (x, key) :: B) l' N' F) (hf : s.f < 0) (ha : ∀ p ∈ A, p.2 < key) (hb : ∀ p ∈ (x, key) :: B, key ≤ p.2) : ∃ s', s.remove 0 l key = ((true, 0), s') ∧ s'.f = s.f ∧ Rm2 s'.W n l (A ++ B) l' N' (x :: F) := by
  obtain ⟨s1, l1, e1⟩ := seek_at h hf ha hb
  have hhas := spot_has (key := key) (lastL (l + 1) A) x B
  have h1 : Rm2 s1.W n l (A ++ (x, key) :: B) l' N' F := by rw [l1.1]; exact h
  have hf1 : s1.f < 0 := by rw [l1.2.1]; exact hf
  have hla := h.last
  have hin := h.inb
  have hev := h.evA
  have hn2 := h.n200
  have hn4 := h.n40
  have hsz := h.size
  have xe : x % 2 = 0 := hev.1 (x, key) (by simp)
  have x18 : x + 1 < n ∧ 18 ≤ x := hin.1 (x, key) (by simp)
  have hn := h.nin.2.2.2.1
  have hxA : x ∉ l :: A.map Prod.fst := by
    rw [List.map_append, ← List.cons_append, List.map_cons] at hn
    exact fun q => (List.nodup_append.1 hn).2.2 x q x (by simp) rfl
  generalize hL : lastL (l + 1) A = L at *
  have hpx := pc_even xe
  have hxl : x ≠ l := fun q => hxA (by rw [q]; simp)
  have hx1L : x + 1 ≠ L := fun q => hxA (by rw [← hpx.2, q]; exact hla.2.2.2)
  have hl1 := h1.len
  have hnd : Sp.nd (spotB L ((x, key) :: B)) = (x : Int) := by
    unfold Sp.nd spotB
    rw [show (x : Int) + 1 - 1 = x by omega]
    exact uw_id (nat_isW (by omega))
  obtain ⟨s2, e2, l2⟩ := get_at (s := s1) (a := x + 1) hf1 (by omega)
  have hf2 : s2.f < 0 := by rw [l2.2.1]; exact hf1
  obtain ⟨s3, e3, p3, f3⟩ := put_at (s := s2) (a := L) hf2 (by rw [l2.1]; omega) (oat s1.W (x + 1))
  have hl3 : s3.W.length = n := by rw [p3, l2.1]; simp [hl1]
  have hf3 : s3.f < 0 := by rw [f3]; exact hf2
  have hW3 : ∀ c, c < n → oat s3.W c = if c = L then oat s1.W (x + 1) else oat s1.W c := by
    intro c hc
    rw [p3, l2.1, oat_st (by omega)]
  obtain ⟨s4, e4, l4⟩ := get_at (s := s3) (a := l) hf3 (by omega)
  have hf4 : s4.f < 0 := by rw [l4.2.1]; exact hf3
  have hcnt : oat s3.W l = ((A ++ B).length : Int) + 1 := by
    rw [hW3 l (by omega), if_neg (by omega), h1.la.cnt]
    simp only [List.length_append, List.length_cons]
    omega
  rw [hcnt] at e4
  obtain ⟨s5, e5, p5, f5⟩ := put_at (s := s4) (a := l) hf4 (by rw [l4.1]; omega) ((A ++ B).length : Int)
  have hl5 : s5.W.length = n := by rw [p5, l4.1]; simp [hl3]
  have hf5 : s5.f < 0 := by rw [f5]; exact hf4
  have hW5 : ∀ c, c < n → oat s5.W c = if c = l then ((A ++ B).length : Int) else if c = L then oat s1.W (x + 1) else oat s1.W c := by
    intro c hc
    rw [p5, l4.1, oat_st (by omega), hW3 c hc]
  have hab : (A ++ B).length ≤ 200 := by simp only [List.length_append, List.length_cons] at hsz ⊢; omega
  have hws5 : ∀ y ∈ s5.W, isW y := by
    rw [p5, l4.1, p3, l2.1]
    exact set_isW (set_isW h1.ws _ (oat_isW h1.ws _)) _ (nat_isW (by omega))
  obtain ⟨s6, e6, f6, p6⟩ := give_at (s := s5) (x := x) (V := s5.W) (n := n) (X := []) (F := F) hf5 ⟨hl5, hws5, by
    have h3 : oat s5.W 3 = oat s1.W 3 := by rw [hW5 3 (by omega), if_neg (by omega), if_neg (by omega)]
    rw [h3, List.reverse_nil, List.nil_append]
    refine fch_same F _ h1.fr (fun a hm => ?_)
    have q := hin.2.2.2 a hm
    have hno := h.nin.2.1 a hm
    have hae := (h.ev a (by unfold pcs; simp only [List.mem_append]; exact .inr (.inr hm))).1
    rw [hW5 a (by omega), if_neg (fun z => hno (by rw [z]; simp)), if_neg (by omega)], fun _ _ _ => rfl⟩ ⟨hn4, hn2⟩ (by omega)
  have hun : s1.unhang (spotB L ((x, key) :: B)) = (0, s3) := by
    unfold Wd.unhang
    rw [hnd, ld_nat (by omega), e2]
    simp only [ne_eq, not_true_eq_false, if_false]
    exact e3
  have hrec : s3.recount l 18446744073709551615 = (0, s5) := by
    unfold Wd.recount
    rw [e4]
    simp only [ne_eq, not_true_eq_false, if_false]
    have : uw (((A ++ B).length : Int) + 1 + 18446744073709551615) = ((A ++ B).length : Int) := by unfold uw; rw [IntKind.wrap_u64]; omega
    rw [this]
    exact e5
  refine ⟨s6, ?_, by rw [f6, f5, l4.2.1, f3, l2.2.1, l1.2.1], ?_⟩
  · unfold Wd.remove
    simp only [e1, hun, hrec, hnd, e6]
    rw [if_neg, if_neg (fun q => q rfl), if_neg (fun q => q rfl)]
    · rfl
    · rintro (q | q)
      · exact q rfl
      · rw [hhas] at q; cases q
  · refine h1.less (by rw [p6]; simp [hl5]) ?_ ?_
    · rw [p6]
      exact set_isW (set_isW hws5 _ (oat_isW hws5 _)) _ ⟨by omega, by omega⟩
    · intro c hc
      have h3 : oat s5.W 3 = oat s1.W 3 := by rw [hW5 3 (by omega), if_neg (by omega), if_neg (by omega)]
      rw [p6, oat_st (by simp; omega), oat_st (by omega), hW5 c hc, h3, hL]
theorem gives_at (h : Rm2 s.W n l N l' N' F) : ∀ (M : List (Nat × Int)) (link : Nat) (X : List Nat) (s1 : Wd), s1.f < 0 → Gvn s.W s1.W n X F → X ++ M.map Prod.fst = N.map Prod.fst → ∃ s', s1.gives 0 (spots link M) = (0, s') ∧ s'.f = s1.f ∧ Gvn s.W s'.W n (N.map Prod.fst) F
  | [], _, X, s1, _, hg, e => ⟨s1, rfl, rfl, by rw [← e, List.map_nil, List.append_nil]; exact hg⟩
  | (x, k) :: M, link, X, s1, hf, hg, e => by
    have hin := h.inb
    have hn2 := h.n200
    have hn4 := h.n40
    have hn := h.nin
    rw [List.map_cons] at e
    have hm : x ∈ N.map Prod.fst := by rw [← e]; simp
    obtain ⟨p, hp, hpx⟩ := List.mem_map.1 hm
    have hx := hin.1 p hp
    rw [hpx] at hx
    have hnd := (List.nodup_cons.1 hn.2.2.2.1).2
    rw [← e] at hnd
    have hxX : x ∉ X := fun q => (List.nodup_append.1 hnd).2.2 x q x (by simp) rfl
    obtain ⟨s2, e2, f2, p2⟩ := give_at (x := x) hf hg ⟨hn4, hn2⟩ (by omega)
    have hg2 : Gvn s.W s2.W n (X ++ [x]) F := by
      rw [p2]
      refine hg.more hx.2 (by omega) ⟨hn4, hn2⟩ hxX (fun q => hn.2.1 x q (by simp only [List.mem_cons]; exact .inr hm)) (fun a hma => ?_)
      rcases List.mem_append.1 hma with z | z
      · have hm2 : a ∈ N.map Prod.fst := by rw [← e]; simp [z]
        obtain ⟨r, hr, hrx⟩ := List.mem_map.1 hm2
        have := hin.1 r hr
        omega
      · have := hin.2.2.2 a z; omega
    obtain ⟨s3, e3, f3, g3⟩ := gives_at h M (x + 1) (X ++ [x]) s2 (by rw [f2]; exact hf) hg2 (by rw [List.append_assoc]; exact e)
    refine ⟨s3, ?_, by rw [f3, f2], g3⟩
    have hnd2 : Sp.nd ⟨link, (x : Int) + 1, k⟩ = (x : Int) := by
      unfold Sp.nd
      rw [show (x : Int) + 1 - 1 = x by omega]
      exact uw_id (nat_isW (by omega))
    show (if (s1.give 0 (Sp.nd ⟨link, (x : Int) + 1, k⟩) 2).1 ≠ 0 then s1.give 0 (Sp.nd ⟨link, (x : Int) + 1, k⟩) 2 else (s1.give 0 (Sp.nd ⟨link, (x : Int) + 1, k⟩) 2).2.gives 0 (spots (x + 1) M)) = _
    rw [hnd2, e2, if_neg (fun q => q rfl)]
    exact e3
theorem giveNodes_at (h : Rm2 s.W n l N l' N' F) (hf : s.f < 0) : ∃ s', s.giveNodes 0 l = (((N.length : Int), 0), s') ∧ s'.f = s.f ∧ Gvn s.W s'.W n (N.map Prod.fst) F := by
  obtain ⟨s1, l1, e1⟩ := all_at h hf
  obtain ⟨s2, e2, f2, g2⟩ := gives_at h N (l + 1) [] s1 (by rw [l1.2.1]; exact hf) (by rw [l1.1]; exact Gvn.nil h) rfl
  refine ⟨s2, ?_, by rw [f2, l1.2.1], g2⟩
  unfold Wd.giveNodes
  simp only [e1, e2]
  rw [if_neg (fun q => q rfl), if_neg (fun q => q rfl), spots_len]
theorem empty_at (hf : s.f < 0) (hl : s.W.length = n) (hn : n ≤ 200) (hln : l + 1 < n) : ∃ s', s.empty l = (0, s') ∧ s'.f = s.f ∧ s'.W = (s.W.set l 0).set (l + 1) 0 := by
  obtain ⟨s1, e1, p1, f1⟩ := put_at (s := s) (a := l) hf (by omega) 0
  obtain ⟨s2, e2, p2, f2⟩ := put_at (s := s1) (a := l + 1) (by rw [f1]; exact hf) (by rw [p1, List.length_set]; omega) 0
  refine ⟨s2, ?_, by rw [f2, f1], by rw [p2, p1]⟩
  unfold Wd.empty
  rw [e1, if_neg (fun q => q rfl), ld_nat (by omega)]
  exact e2
theorem clear_at (h : Rm2 s.W n l N l' N' F) (hf : s.f < 0) : ∃ s', s.clear 0 l = (((N.length : Int), 0), s') ∧ s'.f = s.f ∧ Rm2 s'.W n l [] l' N' ((N.map Prod.fst).reverse ++ F) := by
  obtain ⟨s1, e1, f1, g1⟩ := giveNodes_at h hf
  have hin := h.inb
  obtain ⟨s2, e2, f2, p2⟩ := empty_at (s := s1) (l := l) (n := n) (by rw [f1]; exact hf) g1.len h.n200 (by omega)
  by_cases hN : N = []
  · subst hN
    refine ⟨s1, ?_, f1, ?_⟩
    · unfold Wd.clear
      simp only [e1]
      rw [if_neg (fun q => q rfl), if_pos (show ((([] : List (Nat × Int)).length : Int) = 0) from rfl)]
      rfl
    · refine h.emptied g1 g1.len g1.ws (fun c hc => ?_)
      have h0 : oat s.W l = 0 := h.la.cnt
      have h1 : oat s.W (l + 1) = 0 := h.la.pth
      by_cases q : c = l
      · rw [if_pos q, q, g1.ke l (by omega) (by simp)]; exact h0
      · rw [if_neg q]
        by_cases q1 : c = l + 1
        · rw [if_pos q1, q1, g1.ke (l + 1) (by omega) (by simp)]; exact h1
        · rw [if_neg q1]
  · refine ⟨s2, ?_, by rw [f2, f1], ?_⟩
    · have hpos : N.length ≠ 0 := fun q => hN (List.length_eq_zero_iff.1 q)
      have : (N.length : Int) ≠ 0 := by omega
      unfold Wd.clear
      simp only [e1, e2]
      rw [if_neg (fun q => q rfl), if_neg this, if_neg (fun q => q rfl)]
    · refine h.emptied g1 (by rw [p2]; simp [g1.len]) (by rw [p2]; exact set_isW (set_isW g1.ws _ zero_isW) _ zero_isW) (fun c hc => ?_)
      have hl := g1.len
      rw [p2, oat_st (by simp; omega), oat_st (by omega)]
      by_cases q : c = l
      · rw [if_neg (by omega), if_pos q, if_pos q]
      · rw [if_neg q, if_neg q]
theorem drop_at (h : Rm2 s.W n l N l' N' F) (hf : s.f < 0) : ∃ s1 s', s.drop 0 l = (0, s1) ∧ s1.new 0 = (((l : Int), 0), s') ∧ s'.f = s.f ∧ Rm2 s'.W n l [] l' N' ((N.map Prod.fst).reverse ++ F) := by
  obtain ⟨s1, e1, f1, g1⟩ := giveNodes_at h hf
  have hin := h.inb
  have hn2 := h.n200
  have hn4 := h.n40
  have hf1 : s1.f < 0 := by rw [f1]; exact hf
  have hl1 := g1.len
  obtain ⟨s2, e2, f2, p2⟩ := give_at (x := l) hf1 g1 ⟨hn4, hn2⟩ (by omega)
  have hl2 : s2.W.length = n := by rw [p2]; simp [hl1]
  have hf2 : s2.f < 0 := by rw [f2]; exact hf1
  have hW2 : ∀ c, c < n → oat s2.W c = if c = 3 then (l : Int) + 1 else if c = l then oat s1.W 3 else oat s1.W c := by
    intro c hc
    rw [p2, oat_st (by simp; omega), oat_st (by omega)]
  obtain ⟨s3, e3, l3⟩ := get_at (s := s2) (a := 3) hf2 (by omega)
  have hf3 : s3.f < 0 := by rw [l3.2.1]; exact hf2
  obtain ⟨s4, e4, l4⟩ := get_at (s := s3) (a := l) hf3 (by rw [l3.1]; omega)
  have hf4 : s4.f < 0 := by rw [l4.2.1]; exact hf3
  rw [hW2 3 (by omega), if_pos rfl] at e3
  rw [l3.1, hW2 l (by omega), if_neg (by omega), if_pos rfl] at e4
  obtain ⟨s5, e5, p5, f5⟩ := put_at (s := s4) (a := 3) hf4 (by rw [l4.1, l3.1]; omega) (oat s1.W 3)
  have hl5 : s5.W.length = n := by rw [p5, l4.1, l3.1]; simp [hl2]
  have hW5 : ∀ c, c < n → oat s5.W c = if c = l then oat s1.W 3 else oat s1.W c := by
    intro c hc
    rw [p5, l4.1, l3.1, oat_st (by omega), hW2 c hc]
    by_cases q : c = 3
    · rw [if_pos q, if_neg (by omega), q]
    · rw [if_neg q, if_neg q]
  have hws5 : ∀ y ∈ s5.W, isW y := by
    rw [p5, l4.1, l3.1, p2]
    exact set_isW (set_isW (set_isW g1.ws _ (oat_isW g1.ws _)) _ ⟨by omega, by omega⟩) _ (oat_isW g1.ws _)
  obtain ⟨s6, e6, f6, p6⟩ := empty_at (s := s5) (l := l) (n := n) (by rw [f5]; exact hf4) hl5 hn2 (by omega)
  have m2 : ¬ ¬ mayN 2 := fun q => q may2
  have htake : s2.take 0 2 = (((l : Int), 0), s5) := by
    unfold Wd.take
    have h0 : (l : Int) + 1 ≠ 0 := by omega
    have e : uw ((l : Int) + 1 - 1) = l := by rw [show (l : Int) + 1 - 1 = l by omega]; exact uw_id (nat_isW (by omega))
    rw [if_neg m2, hd2, e3, if_neg (fun q => q rfl), if_neg h0]
    unfold Wd.takeG
    simp only [e, e4, e5, ne_eq, not_true_eq_false, if_false]
  refine ⟨s2, s6, ?_, ?_, by rw [f6, f5, l4.2.1, l3.2.1, f2, f1], ?_⟩
  · unfold Wd.drop
    simp only [e1]
    rw [if_neg (fun q => q rfl)]
    exact e2
  · unfold Wd.new
    simp only [htake, e6]
    rw [if_neg (fun q => q rfl), if_neg (fun q => q rfl)]
  · refine h.emptied g1 (by rw [p6]; simp [hl5]) (by rw [p6]; exact set_isW (set_isW hws5 _ zero_isW) _ zero_isW) (fun c hc => ?_)
    rw [p6, oat_st (by simp; omega), oat_st (by omega), hW5 c hc]
    by_cases q : c = l
    · rw [if_neg (by omega), if_pos q, if_pos q]
    · rw [if_neg q, if_neg q, if_neg q]
end
end Go.Proofs.Ytmnbilhblkobdaa
