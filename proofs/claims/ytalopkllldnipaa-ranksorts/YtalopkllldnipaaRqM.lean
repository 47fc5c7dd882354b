/-
  No statement of the seat is proved here. (Several texts in one: RqA, RqB, RqC, RqD, RqE, RqF.)
-/
import Derived.Test.YtalopkllldnipaaRpAM
import Derived.Test.YtalopkllldnipaaRoM
import Derived.Test.YtalopkllldnipaaRlF

/- What stands in words, read by a tx that refuses nothing (layer 24), pure. No statement of the seat is proved here. -/
namespace Go.Proofs.Ytalopkllldnipaa
open Go.RowKit

/-- The same words, and none is refused. -/
def Lk (W : List Int) (s : Wd) : Prop := s.W = W ∧ s.f < 0
theorem get_lk {W : List Int} {s : Wd} (h : Lk W s) (a : Int) : ∃ s1, s.get a = (if (W.length : Int) ≤ a then (0, 4) else (oat W a.toNat, 0), s1) ∧ Lk W s1 := by
  have q := get_no h.2 a
  rw [h.1] at q
  refine ⟨s.gt, ?_, h⟩
  rw [q]
  split <;> rfl
theorem getK_lk {W : List Int} (a : Int) {s : Wd} (h : Lk W s) : ∀ n : Nat, (∀ i : Nat, i < n → uw (a + i) < (W.length : Int)) → ∃ s1, getK a s n = (((List.range n).map (fun i : Nat => oat W (uw (a + i)).toNat), 0), s1) ∧ Lk W s1
  | 0, _ => ⟨s, rfl, h⟩
  | n + 1, hi => by
    obtain ⟨s1, e1, h1⟩ := getK_lk a h n (fun i hin => hi i (by omega))
    obtain ⟨s2, e2, h2⟩ := get_lk h1 (uw (a + n))
    have hn := hi n (by omega)
    rw [if_neg (by omega)] at e2
    refine ⟨s2, ?_, h2⟩
    rw [getK_bnd, bnd_ok e1, bnd_ok e2, List.range_succ, List.map_append]
    rfl
theorem getK_out {W : List Int} (a : Int) {s : Wd} (h : Lk W s) : ∀ n : Nat, (∃ i : Nat, i < n ∧ ¬ uw (a + i) < (W.length : Int)) → ∃ s1, getK a s n = (([], 4), s1) ∧ Lk W s1
  | 0, hi => by obtain ⟨i, hi, _⟩ := hi; omega
  | n + 1, hi => by
    by_cases hn : ∃ i : Nat, i < n ∧ ¬ uw (a + i) < (W.length : Int)
    · obtain ⟨s1, e1, h1⟩ := getK_out a h n hn
      exact ⟨s1, by rw [getK_bnd, bnd_no e1 (by decide)], h1⟩
    · have hall : ∀ i : Nat, i < n → uw (a + i) < (W.length : Int) := fun i hin => by
        by_cases e : uw (a + i) < (W.length : Int)
        · exact e
        · exact absurd ⟨i, hin, e⟩ hn
      obtain ⟨i, hin, hno⟩ := hi
      have ei : i = n := by
        by_cases e : i < n
        · exact absurd ⟨i, e, hno⟩ hn
        · omega
      subst ei
      obtain ⟨s1, e1, h1⟩ := getK_lk a h i hall
      obtain ⟨s2, e2, h2⟩ := get_lk h1 (uw (a + i))
      rw [if_pos (by omega)] at e2
      exact ⟨s2, by rw [getK_bnd, bnd_ok e1, bnd_no e2 (by decide)], h2⟩
/-- The node to which a word leads. -/
def ndT (W : List Int) (x : Int) : Tr := ⟨nodeA x, ndL W x, false⟩
theorem treF_lk {W : List Int} {s : Wd} (h : Lk W s) {x : Int} (hx : ¬ x = 0) : ∃ s1, treF x s = (if okN W x = true then (some (ndT W x), 0) else (none, 4), s1) ∧ Lk W s1 := by
  unfold treF
  rw [if_neg hx]
  by_cases hok : okN W x = true
  · rw [if_pos hok]
    have hall : ∀ i : Nat, i < 5 → uw (nodeA x + i) < (W.length : Int) := fun i hi => by
      unfold okN at hok
      rw [List.all_eq_true] at hok
      have q : adN x i < (W.length : Int) := by simpa using hok i (by simpa using hi)
      exact q
    obtain ⟨s1, e1, h1⟩ := getK_lk (nodeA x) h 5 hall
    exact ⟨s1, bnd_ok e1, h1⟩
  · rw [if_neg hok]
    have hno : ∃ i : Nat, i < 5 ∧ ¬ uw (nodeA x + i) < (W.length : Int) := by
      by_cases e : ∃ i : Nat, i < 5 ∧ ¬ uw (nodeA x + i) < (W.length : Int)
      · exact e
      · refine absurd (okN_yes fun i hi => ?_) hok
        by_cases e2 : uw (nodeA x + i) < (W.length : Int)
        · exact e2
        · exact absurd ⟨i, hi, e2⟩ e
    obtain ⟨s1, e1, h1⟩ := getK_out (nodeA x) h 5 hno
    exact ⟨s1, bnd_no e1 (by decide), h1⟩
theorem nodeA_back {x : Int} (hx : isW x) : uw (nodeA x + 1) = x := by
  unfold nodeA uw isW at *
  simp only [IntKind.wrap_u64]
  omega
end Go.Proofs.Ytalopkllldnipaa


/- A heap that is sound: what All finds (layer 24), pure. No statement of the seat is proved here. -/
namespace Go.Proofs.Ytalopkllldnipaa
open Go.RowKit

def kd1 (y : Int) : List Int := if y = 0 then [] else [y]
def lfN (W : List Int) (x : Int) : Int := oat (ndL W x) 2
def riN (W : List Int) (x : Int) : Int := oat (ndL W x) 3
/-- Where a node leads. -/
def kdN (W : List Int) (x : Int) : List Int := kd1 (lfN W x) ++ kd1 (riN W x)
def enN (W : List Int) (x : Int) : Int × Int := (oat (ndL W x) 0, oat (ndL W x) 1)
def heN (W : List Int) (x : Int) : Prop := okN W x = true ∧ reK (oat (ndL W x) 0) = true
def rkO (W : List Int) (x : Int) : Prop := rkN W (riN W x) ≤ rkN W (lfN W x) ∧ oat (ndL W x) 4 = uw (rkN W (riN W x) + 1)
inductive Rch (W : List Int) (r : Int) : Int → Prop
  | root : r ≠ 0 → Rch W r r
  | kid {x y : Int} : Rch W r x → y ∈ kdN W x → Rch W r y
theorem kd1_mem {x y : Int} : x ∈ kd1 y ↔ x = y ∧ y ≠ 0 := by
  unfold kd1
  split
  · simp; omega
  · simp; omega
theorem oat_wd {W : List Int} (h : ∀ x ∈ W, isW x) (x : Int) (i : Nat) : isW (oat (ndL W x) i) := by
  refine oat_isW (fun y hy => ?_) i
  unfold ndL at hy
  obtain ⟨j, _, rfl⟩ := List.mem_map.1 hy
  exact oat_isW h _
theorem kdN_wd {W : List Int} (h : ∀ x ∈ W, isW x) {x y : Int} (hy : y ∈ kdN W x) : isW y ∧ y ≠ 0 := by
  unfold kdN at hy
  rcases List.mem_append.1 hy with q | q
  · obtain ⟨rfl, q2⟩ := kd1_mem.1 q
    exact ⟨oat_wd h _ _, q2⟩
  · obtain ⟨rfl, q2⟩ := kd1_mem.1 q
    exact ⟨oat_wd h _ _, q2⟩
/-- May this word lead on, when those were found? -/
def flO (W : List Int) (n : Int) (p : Option Int) (x : Int) (xs : List Int) : Prop := x = 0 ∨ (x ∉ xs ∧ (xs.length : Int) ≠ n ∧ heN W x ∧ ∀ u, p = some u → ¬ befE (enN W x) (enN W u))
theorem any_mem {W : List Int} {xs : List Int} (hx : ∀ x ∈ xs, isW x) (x : Int) : (xs.map (ndT W)).any (fun t => decide (uw (t.at_ + 1) = x)) = true ↔ x ∈ xs := by
  rw [List.any_eq_true]
  constructor
  · rintro ⟨t, ht, e⟩
    obtain ⟨y, hy, rfl⟩ := List.mem_map.1 ht
    have e2 : uw (nodeA y + 1) = x := of_decide_eq_true e
    rw [nodeA_back (hx y hy)] at e2
    exact e2 ▸ hy
  · intro h
    exact ⟨ndT W x, List.mem_map_of_mem h, decide_eq_true (nodeA_back (hx x h))⟩
open Classical in
theorem fol_lk {W : List Int} {s : Wd} (h : Lk W s) (n : Int) (p : Option Int) {x : Int} {xs : List Int} (hxs : ∀ x ∈ xs, isW x) :
    ∃ e s1, folF n (p.map (ndT W)) x (xs.map (ndT W)) s = ((if flO W n p x xs then (if x = 0 then none else some (ndT W x)) else none, e), s1) ∧ Lk W s1 ∧ (e = 0 ↔ flO W n p x xs) ∧ (e = 0 ∨ e = 340 ∨ e = 4) := by
  unfold folF
  by_cases h0 : x = 0
  · rw [if_pos h0]
    have hf : flO W n p x xs := .inl h0
    exact ⟨0, s, by rw [if_pos hf, if_pos h0]; rfl, h, ⟨fun _ => hf, fun _ => rfl⟩, .inl rfl⟩
  · rw [if_neg h0]
    by_cases h1 : (xs.map (ndT W)).any (fun t => decide (uw (t.at_ + 1) = x)) = true ∨ ((xs.map (ndT W)).length : Int) = n
    · rw [if_pos h1]
      have hf : ¬ flO W n p x xs := by
        rintro (q | ⟨q1, q2, _⟩)
        · exact h0 q
        · rcases h1 with z | z
          · exact q1 ((any_mem hxs x).1 z)
          · exact q2 (by simpa using z)
      exact ⟨340, s, by rw [if_neg hf]; rfl, h, ⟨fun e => absurd e (by decide), fun q => absurd q hf⟩, .inr (.inl rfl)⟩
    · rw [if_neg h1]
      have hnm : x ∉ xs := fun q => h1 (.inl ((any_mem hxs x).2 q))
      have hln : (xs.length : Int) ≠ n := fun q => h1 (.inr (by simpa using q))
      obtain ⟨s1, e1, l1⟩ := treF_lk h h0
      by_cases hok : okN W x = true
      · rw [if_pos hok] at e1
        rw [bnd_ok e1]
        show ∃ e s1', (if reK (oat (ndT W x).c 0) = true ∧ (∀ u, p.map (ndT W) = some u → ¬ befE (ndT W x).ent u.ent) then rtn (some (ndT W x)) else err none 340) s1 = _ ∧ _
        by_cases hg : reK (oat (ndT W x).c 0) = true ∧ (∀ u, p.map (ndT W) = some u → ¬ befE (ndT W x).ent u.ent)
        · rw [if_pos hg]
          have hf : flO W n p x xs := .inr ⟨hnm, hln, ⟨hok, hg.1⟩, fun u hu => hg.2 (ndT W u) (by rw [hu]; rfl)⟩
          exact ⟨0, s1, by rw [if_pos hf, if_neg h0]; rfl, l1, ⟨fun _ => hf, fun _ => rfl⟩, .inl rfl⟩
        · rw [if_neg hg]
          have hf : ¬ flO W n p x xs := by
            rintro (q | ⟨_, _, q3, q4⟩)
            · exact h0 q
            · refine hg ⟨q3.2, fun u hu => ?_⟩
              cases p with
              | none => cases hu
              | some p =>
                simp only [Option.map_some, Option.some.injEq] at hu
                subst hu
                exact q4 p rfl
          exact ⟨340, s1, by rw [if_neg hf]; rfl, l1, ⟨fun e => absurd e (by decide), fun q => absurd q hf⟩, .inr (.inl rfl)⟩
      · rw [if_neg hok] at e1
        rw [bnd_no e1 (by decide)]
        have hf : ¬ flO W n p x xs := by
          rintro (q | ⟨_, _, q3, _⟩)
          · exact h0 q
          · exact hok q3.1
        exact ⟨4, s1, by rw [if_neg hf], l1, ⟨fun e => absurd e (by decide), fun q => absurd q hf⟩, .inr (.inr rfl)⟩
theorem kd1_map (W : List Int) (x : Int) : ((if x = 0 then none else some (ndT W x) : Option Tr)).toList = (kd1 x).map (ndT W) := by
  unfold kd1
  split <;> rfl
theorem rkT_kd (W : List Int) (x : Int) : rkT (if x = 0 then none else some (ndT W x)) = rkN W x := by
  unfold rkN
  split <;> rfl
def chO (W : List Int) (n : Int) (x : Int) (xs : List Int) : Prop := flO W n (some x) (lfN W x) xs ∧ flO W n (some x) (riN W x) (xs ++ kd1 (lfN W x)) ∧ rkO W x
open Classical in
theorem chi_lk {W : List Int} (hW : ∀ x ∈ W, isW x) {s : Wd} (h : Lk W s) (n : Int) (x : Int) {xs : List Int} (hxs : ∀ x ∈ xs, isW x) :
    ∃ e s1, chiF n (ndT W x) (xs.map (ndT W)) s = ((if chO W n x xs then (xs ++ kdN W x).map (ndT W) else [], e), s1) ∧ Lk W s1 ∧ (e = 0 ↔ chO W n x xs) ∧ (e = 0 ∨ e = 340 ∨ e = 4) := by
  unfold chiF
  obtain ⟨e1, s1, q1, l1, i1, c1⟩ := fol_lk h n (some x) (x := lfN W x) hxs
  change folF n (some (ndT W x)) (oat (ndT W x).c 2) (xs.map (ndT W)) s = _ at q1
  by_cases h1 : flO W n (some x) (lfN W x) xs
  · obtain rfl := i1.2 h1
    rw [if_pos h1] at q1
    rw [bnd_ok q1, kd1_map, ← List.map_append]
    have hxs2 : ∀ y ∈ xs ++ kd1 (lfN W x), isW y := fun y hy => by
      rcases List.mem_append.1 hy with q | q
      · exact hxs y q
      · rw [(kd1_mem.1 q).1]; exact oat_wd hW _ _
    obtain ⟨e2, s2, q2, l2, i2, c2⟩ := fol_lk l1 n (some x) (x := riN W x) hxs2
    change folF n (some (ndT W x)) (oat (ndT W x).c 3) _ s1 = _ at q2
    by_cases h2 : flO W n (some x) (riN W x) (xs ++ kd1 (lfN W x))
    · obtain rfl := i2.2 h2
      rw [if_pos h2] at q2
      rw [bnd_ok q2, rkT_kd, rkT_kd, kd1_map, ← List.map_append]
      by_cases h3 : rkN W (lfN W x) < rkN W (riN W x) ∨ oat (ndT W x).c 4 ≠ uw (rkN W (riN W x) + 1)
      · rw [if_pos h3]
        have hf : ¬ chO W n x xs := by
          rintro ⟨_, _, q3, q4⟩
          rcases h3 with z | z
          · omega
          · exact z q4
        exact ⟨340, s2, by rw [if_neg hf]; rfl, l2, ⟨fun e => absurd e (by decide), fun q => absurd q hf⟩, .inr (.inl rfl)⟩
      · rw [if_neg h3]
        have hf : chO W n x xs := ⟨h1, h2, by
          refine ⟨by omega, ?_⟩
          by_cases z : oat (ndL W x) 4 = uw (rkN W (riN W x) + 1)
          · exact z
          · exact absurd (.inr z) h3⟩
        exact ⟨0, s2, by rw [if_pos hf]; unfold kdN rtn; rw [List.append_assoc], l2, ⟨fun _ => hf, fun _ => rfl⟩, .inl rfl⟩
    · have he : e2 ≠ 0 := fun e => h2 (i2.1 e)
      rw [bnd_no q2 he]
      have hf : ¬ chO W n x xs := fun q => h2 q.2.1
      exact ⟨e2, s2, by rw [if_neg hf], l2, ⟨fun e => absurd e he, fun q => absurd q hf⟩, c2⟩
  · have he : e1 ≠ 0 := fun e => h1 (i1.1 e)
    rw [bnd_no q1 he]
    have hf : ¬ chO W n x xs := fun q => h1 q.1
    exact ⟨e1, s1, by rw [if_neg hf], l1, ⟨fun e => absurd e he, fun q => absurd q hf⟩, c1⟩
end Go.Proofs.Ytalopkllldnipaa


/- A heap that is sound: All finds it, and no other (layer 24), pure. No statement of the seat is proved here. -/
namespace Go.Proofs.Ytalopkllldnipaa
open Go.RowKit

structure Inv (W : List Int) (n r : Int) (i : Nat) (xs : List Int) : Prop where
  wd : ∀ x ∈ xs, isW x
  le : i ≤ xs.length
  nd : xs.Nodup
  eq : xs = kd1 r ++ (xs.take i).flatMap (kdN W)
  he : ∀ x ∈ xs, heN W x
  ok : ∀ x ∈ xs.take i, rkO W x ∧ ∀ y ∈ kdN W x, ¬ befE (enN W y) (enN W x)
  few : (xs.length : Int) ≤ n
  re : ∀ x ∈ xs, Rch W r x
/-- A heap that is sound: its nodes. -/
structure Snd (W : List Int) (n r : Int) (L : List Int) : Prop where
  wd : ∀ x ∈ L, isW x
  nd : L.Nodup
  pm : L.Perm (kd1 r ++ L.flatMap (kdN W))
  he : ∀ x ∈ L, heN W x
  ok : ∀ x ∈ L, rkO W x ∧ ∀ y ∈ kdN W x, ¬ befE (enN W y) (enN W x)
  len : (L.length : Int) = n
  re : ∀ x ∈ L, Rch W r x
theorem flO_add {W : List Int} {n : Int} {x y : Int} {xs : List Int} (h : flO W n (some x) y xs) (nd : xs.Nodup) (few : (xs.length : Int) ≤ n) : (xs ++ kd1 y).Nodup ∧ ((xs ++ kd1 y).length : Int) ≤ n ∧ ∀ z ∈ kd1 y, heN W z ∧ ¬ befE (enN W z) (enN W x) := by
  by_cases h0 : y = 0
  · have e : kd1 y = [] := if_pos h0
    rw [e, List.append_nil]
    exact ⟨nd, few, fun z hz => by simp at hz⟩
  · have e : kd1 y = [y] := if_neg h0
    rcases h with h | ⟨h1, h2, h3, h4⟩
    · exact absurd h h0
    · rw [e]
      refine ⟨?_, ?_, fun z hz => ?_⟩
      · rw [List.nodup_append]
        refine ⟨nd, by simp, fun a ha b hb e => ?_⟩
        simp at hb
        subst e hb
        exact h1 ha
      · rw [List.length_append]
        simp
        omega
      · simp at hz
        subst hz
        exact ⟨h3, h4 x rfl⟩
theorem Inv.step {W : List Int} (hW : ∀ x ∈ W, isW x) {n r : Int} {i : Nat} {xs : List Int} (h : Inv W n r i xs) {x : Int} (hx : xs[i]? = some x) (hc : chO W n x xs) : Inv W n r (i + 1) (xs ++ kdN W x) := by
  obtain ⟨hlt, hxi⟩ := List.getElem?_eq_some_iff.1 hx
  have hxm : x ∈ xs := List.mem_of_getElem? hx
  obtain ⟨a1, a2, a3⟩ := flO_add hc.1 h.nd h.few
  obtain ⟨b1, b2, b3⟩ := flO_add hc.2.1 a1 a2
  have hk : ∀ y ∈ kdN W x, heN W y ∧ ¬ befE (enN W y) (enN W x) := fun y hy => by
    rcases List.mem_append.1 hy with q | q
    · exact a3 y q
    · exact b3 y q
  rw [List.append_assoc] at b1 b2
  have htake : (xs ++ kdN W x).take (i + 1) = xs.take i ++ [x] := by
    rw [List.take_append_of_le_length (by omega), List.take_add_one, hx]
    rfl
  refine ⟨?_, ?_, b1, ?_, ?_, ?_, b2, ?_⟩
  · intro y hy
    rcases List.mem_append.1 hy with q | q
    · exact h.wd y q
    · exact (kdN_wd hW q).1
  · rw [List.length_append]; omega
  · rw [htake, List.flatMap_append, ← List.append_assoc, ← h.eq]
    simp
  · intro y hy
    rcases List.mem_append.1 hy with q | q
    · exact h.he y q
    · exact (hk y q).1
  · rw [htake]
    intro y hy
    rcases List.mem_append.1 hy with q | q
    · exact h.ok y q
    · simp at q
      subst q
      exact ⟨hc.2.2, fun z hz => (hk z hz).2⟩
  · intro y hy
    rcases List.mem_append.1 hy with q | q
    · exact h.re y q
    · exact .kid (h.re x hxm) q
theorem Inv.snd {W : List Int} {n r : Int} {xs : List Int} (h : Inv W n r xs.length xs) (hl : (xs.length : Int) = n) : Snd W n r xs := by
  have e := h.eq
  have o := h.ok
  rw [List.take_length] at e o
  exact ⟨h.wd, h.nd, by rw [← e], h.he, o, hl, h.re⟩
theorem wlk_any {W : List Int} (hW : ∀ x ∈ W, isW x) {n r : Int} : ∀ (k i : Nat) (xs : List Int) (s : Wd), Lk W s → Inv W n r i xs →
    ∃ F e s1, wlkF n k i (xs.map (ndT W)) s = ((F, e), s1) ∧ Lk W s1 ∧ (e = 0 ∨ e = 340 ∨ e = 4) ∧ (e = 0 → ∃ ys : List Int, F = ys.map (ndT W) ∧ Inv W n r ys.length ys)
  | 0, i, xs, s, h, _ => ⟨[], 340, s, rfl, h, .inr (.inl rfl), fun e => absurd e (by decide)⟩
  | k + 1, i, xs, s, h, hI => by
    have hm : (xs.map (ndT W))[i]? = xs[i]?.map (ndT W) := List.getElem?_map ..
    unfold wlkF
    rw [hm]
    cases hx : xs[i]? with
    | none =>
      have hge : xs.length ≤ i := List.getElem?_eq_none_iff.1 hx
      have hi : i = xs.length := by have := hI.le; omega
      subst hi
      exact ⟨_, 0, s, rfl, h, .inl rfl, fun _ => ⟨xs, rfl, hI⟩⟩
    | some x =>
      obtain ⟨e, s1, q, l1, i1, c1⟩ := chi_lk hW h n x hI.wd
      show ∃ F e s1, bnd (chiF n (ndT W x) (xs.map (ndT W))) (fun F1 => wlkF n k (i + 1) F1) [] s = ((F, e), s1) ∧ _
      by_cases hc : chO W n x xs
      · obtain rfl := i1.2 hc
        rw [if_pos hc] at q
        rw [bnd_ok q]
        exact wlk_any hW k (i + 1) _ s1 l1 (hI.step hW hx hc)
      · have he : e ≠ 0 := fun z => hc (i1.1 z)
        rw [bnd_no q he]
        exact ⟨[], e, s1, rfl, l1, c1, fun z => absurd z he⟩
/-- Part of a list without repetitions. -/
theorem part_of {α : Type} [BEq α] [LawfulBEq α] : ∀ (T L : List α), T.Nodup → (∀ x ∈ T, x ∈ L) → ∃ R, L.Perm (T ++ R)
  | [], L, _, _ => ⟨L, List.Perm.refl _⟩
  | a :: T, L, hT, hs => by
    have hp := List.perm_cons_erase (hs a (by simp))
    rw [List.nodup_cons] at hT
    obtain ⟨R, hR⟩ := part_of T (L.erase a) hT.2 (fun x hx => by
      have hne : x ≠ a := fun e => hT.1 (e ▸ hx)
      exact (List.mem_erase_of_ne hne).2 (hs x (List.mem_cons_of_mem _ hx)))
    exact ⟨R, hp.trans (List.Perm.cons a hR)⟩
theorem Snd.part {W : List Int} {n r : Int} {L T : List Int} (h : Snd W n r L) (hT : T.Nodup) (hs : ∀ x ∈ T, x ∈ L) : (kd1 r ++ T.flatMap (kdN W)).Nodup ∧ ((kd1 r ++ T.flatMap (kdN W)).length : Int) ≤ n ∧ ∀ x ∈ kd1 r ++ T.flatMap (kdN W), x ∈ L := by
  obtain ⟨R, hR⟩ := part_of T L hT hs
  have p : L.Perm ((kd1 r ++ T.flatMap (kdN W)) ++ R.flatMap (kdN W)) := by
    refine h.pm.trans ?_
    rw [List.append_assoc, ← List.flatMap_append]
    exact List.Perm.append_left _ (List.Perm.flatMap_right _ hR)
  have nd := p.nodup h.nd
  refine ⟨(List.nodup_append.1 nd).1, ?_, fun x hx => p.mem_iff.2 (List.mem_append_left _ hx)⟩
  have hl := p.length_eq
  have := h.len
  rw [List.length_append] at hl
  omega
theorem Snd.closed {W : List Int} {n r : Int} {L : List Int} (h : Snd W n r L) {x : Int} (hx : Rch W r x) : x ∈ L := by
  induction hx with
  | root h0 => exact h.pm.mem_iff.2 (List.mem_append_left _ (kd1_mem.2 ⟨rfl, h0⟩))
  | kid _ hy ih => exact h.pm.mem_iff.2 (List.mem_append_right _ (List.mem_flatMap.2 ⟨_, ih, hy⟩))
end Go.Proofs.Ytalopkllldnipaa


/- All finds a heap that is sound, and refuses any other one (layer 24), pure. No statement of the seat is proved here. -/
namespace Go.Proofs.Ytalopkllldnipaa
open Go.RowKit

theorem Inv.closed {W : List Int} {n r : Int} {xs : List Int} (h : Inv W n r xs.length xs) {x : Int} (hx : Rch W r x) : x ∈ xs := by
  have e := h.eq
  rw [List.take_length] at e
  induction hx with
  | root h0 => rw [e]; exact List.mem_append_left _ (kd1_mem.2 ⟨rfl, h0⟩)
  | kid _ hy ih => rw [e]; exact List.mem_append_right _ (List.mem_flatMap.2 ⟨_, ih, hy⟩)
theorem Snd.may {W : List Int} {n r : Int} {L : List Int} (h : Snd W n r L) {i : Nat} {xs : List Int} (hI : Inv W n r i xs) {x : Int} (hx : xs[i]? = some x) : chO W n x xs := by
  obtain ⟨hlt, hxi⟩ := List.getElem?_eq_some_iff.1 hx
  have hxm : x ∈ xs := List.mem_of_getElem? hx
  have hxL := h.closed (hI.re x hxm)
  have htk : xs.take (i + 1) = xs.take i ++ [x] := by rw [List.take_add_one, hx]; rfl
  obtain ⟨p1, p2, p3⟩ := h.part (T := xs.take (i + 1)) (hI.nd.sublist (List.take_sublist _ _)) (fun y hy => h.closed (hI.re y (List.mem_of_mem_take hy)))
  rw [htk, List.flatMap_append, ← List.append_assoc, ← hI.eq] at p1 p2 p3
  have e1 : [x].flatMap (kdN W) = kd1 (lfN W x) ++ kd1 (riN W x) := by simp [kdN]
  rw [e1] at p1 p2 p3
  have ho := h.ok x hxL
  have hsub : ∀ y ∈ kdN W x, y ∈ L := fun y hy => p3 y (List.mem_append_right _ hy)
  have q1 := List.nodup_append.1 p1
  have p1' := p1
  rw [← List.append_assoc] at p1'
  have q2 := List.nodup_append.1 p1'
  rw [List.length_append, List.length_append] at p2
  refine ⟨?_, ?_, ho.1⟩
  · by_cases h0 : lfN W x = 0
    · exact .inl h0
    · have hm : lfN W x ∈ kd1 (lfN W x) := kd1_mem.2 ⟨rfl, h0⟩
      have hl : (kd1 (lfN W x)).length = 1 := by unfold kd1; rw [if_neg h0]; rfl
      have hk : lfN W x ∈ kdN W x := List.mem_append_left _ hm
      refine .inr ⟨fun hin => q1.2.2 _ hin _ (List.mem_append_left _ hm) rfl, by omega, h.he _ (hsub _ hk), fun u hu => ?_⟩
      cases hu
      exact ho.2 _ hk
  · by_cases h0 : riN W x = 0
    · exact .inl h0
    · have hm : riN W x ∈ kd1 (riN W x) := kd1_mem.2 ⟨rfl, h0⟩
      have hl : (kd1 (riN W x)).length = 1 := by unfold kd1; rw [if_neg h0]; rfl
      have hk : riN W x ∈ kdN W x := List.mem_append_right _ hm
      refine .inr ⟨fun hin => q2.2.2 _ hin _ hm rfl, by rw [List.length_append]; omega, h.he _ (hsub _ hk), fun u hu => ?_⟩
      cases hu
      exact ho.2 _ hk
theorem wlk_yes {W : List Int} (hW : ∀ x ∈ W, isW x) {n r : Int} {L : List Int} (h : Snd W n r L) : ∀ (k i : Nat) (xs : List Int) (s : Wd), Lk W s → Inv W n r i xs → L.length - i < k →
    ∃ (ys : List Int) (s1 : Wd), wlkF n k i (xs.map (ndT W)) s = ((ys.map (ndT W), 0), s1) ∧ Lk W s1 ∧ Inv W n r ys.length ys
  | 0, i, xs, s, _, _, hk => absurd hk (by omega)
  | k + 1, i, xs, s, hs, hI, hk => by
    have hm : (xs.map (ndT W))[i]? = xs[i]?.map (ndT W) := List.getElem?_map ..
    unfold wlkF
    rw [hm]
    cases hx : xs[i]? with
    | none =>
      have hge : xs.length ≤ i := List.getElem?_eq_none_iff.1 hx
      have hi : i = xs.length := by have := hI.le; omega
      subst hi
      exact ⟨xs, s, rfl, hs, hI⟩
    | some x =>
      obtain ⟨hlt, _⟩ := List.getElem?_eq_some_iff.1 hx
      have hc := h.may hI hx
      have hlen := h.len
      have hfew := hI.few
      obtain ⟨e, s1, q, l1, i1, c1⟩ := chi_lk hW hs n x hI.wd
      show ∃ ys s1, bnd (chiF n (ndT W x) (xs.map (ndT W))) (fun F1 => wlkF n k (i + 1) F1) [] s = ((List.map (ndT W) ys, 0), s1) ∧ _
      obtain rfl := i1.2 hc
      rw [if_pos hc] at q
      rw [bnd_ok q]
      exact wlk_yes hW h k (i + 1) _ s1 l1 (hI.step hW hx hc) (by omega)
theorem Snd.all {W : List Int} {n r : Int} {L ys : List Int} (h : Snd W n r L) (hI : Inv W n r ys.length ys) : (ys.length : Int) = n := by
  obtain ⟨R, hR⟩ := part_of L ys h.nd (fun x hx => hI.closed (h.re x hx))
  have hl := hR.length_eq
  rw [List.length_append] at hl
  have h1 := h.len
  have h2 := hI.few
  omega
theorem rch_zero {W : List Int} {x : Int} (h : Rch W 0 x) : False := by
  induction h with
  | root h => exact h rfl
  | kid _ _ ih => exact ih
theorem Snd.zero {W : List Int} {n r : Int} {L : List Int} (h : Snd W n r L) : n = 0 ↔ r = 0 := by
  constructor
  · intro hn
    by_cases hr : r = 0
    · exact hr
    · have hm := h.closed (Rch.root hr)
      have := List.length_pos_of_mem hm
      have := h.len
      omega
  · intro hr
    subst hr
    have hL : L = [] := by
      cases L with
      | nil => rfl
      | cons x L => exact absurd (h.re x (by simp)) (fun q => rch_zero q)
    rw [← h.len, hL]
    rfl
theorem inv_start {W : List Int} {n r : Int} (hr : isW r) (hn : 0 ≤ n) (h : flO W n none r []) : Inv W n r 0 (kd1 r) := by
  by_cases h0 : r = 0
  · have e : kd1 r = [] := if_pos h0
    rw [e]
    exact ⟨fun x hx => by simp at hx, by simp, List.nodup_nil, by rw [e]; rfl, fun x hx => by simp at hx, fun x hx => by simp at hx, by simpa using hn, fun x hx => by simp at hx⟩
  · have e : kd1 r = [r] := if_neg h0
    rcases h with h | ⟨_, h2, h3, _⟩
    · exact absurd h h0
    · have h2' : ¬ (0 : Int) = n := h2
      rw [e]
      refine ⟨fun x hx => ?_, by simp, by simp, by rw [e]; rfl, fun x hx => ?_, fun x hx => by simp at hx, ?_, fun x hx => ?_⟩
      · simp at hx; rw [hx]; exact hr
      · simp at hx; rw [hx]; exact h3
      · show ((1 : Nat) : Int) ≤ n
        omega
      · simp at hx; rw [hx]; exact .root h0
theorem Snd.start {W : List Int} {n r : Int} {L : List Int} (h : Snd W n r L) : flO W n none r [] := by
  by_cases h0 : r = 0
  · exact .inl h0
  · have hm := h.closed (Rch.root h0)
    have hp := List.length_pos_of_mem hm
    have hl := h.len
    refine .inr ⟨by simp, by show ¬ ((0 : Nat) : Int) = n; omega, h.he r hm, fun u hu => by cases hu⟩
def inH (W : List Int) (h : Int) : Prop := uw (h + (0 : Nat)) < (W.length : Int) ∧ uw (h + (1 : Nat)) < (W.length : Int)
def cnH (W : List Int) (h : Int) : Int := oat W (uw (h + (0 : Nat))).toNat
def rtH (W : List Int) (h : Int) : Int := oat W (uw (h + (1 : Nat))).toNat
theorem hep_lk {W : List Int} {s : Wd} (hs : Lk W s) (h : Int) :
    ∃ e s1, hepF h s = ((if e = 0 then (cnH W h, rtH W h) else (0, 0), e), s1) ∧ Lk W s1 ∧ (e = 0 ∨ e = 340 ∨ e = 4) ∧ (e = 0 ↔ inH W h ∧ (cnH W h = 0 ↔ rtH W h = 0)) := by
  unfold hepF
  by_cases hin : inH W h
  · obtain ⟨s1, q, l1⟩ := getK_lk h hs 2 (fun i hi => by
      have : i = 0 ∨ i = 1 := by omega
      rcases this with rfl | rfl
      · exact hin.1
      · exact hin.2)
    change getsF h 2 s = _ at q
    rw [bnd_ok q]
    show ∃ e s1', (if decide (cnH W h = 0) ≠ decide (rtH W h = 0) then err (0, 0) 340 else rtn (cnH W h, rtH W h)) s1 = _ ∧ _
    by_cases hz : cnH W h = 0 ↔ rtH W h = 0
    · have hd : decide (cnH W h = 0) = decide (rtH W h = 0) := decide_eq_decide.2 hz
      rw [if_neg (fun f => f hd)]
      exact ⟨0, s1, by rw [if_pos rfl]; rfl, l1, .inl rfl, ⟨fun _ => ⟨hin, hz⟩, fun _ => rfl⟩⟩
    · have hd : decide (cnH W h = 0) ≠ decide (rtH W h = 0) := fun e => hz (decide_eq_decide.1 e)
      rw [if_pos hd]
      exact ⟨340, s1, by rw [if_neg (by decide)]; rfl, l1, .inr (.inl rfl), ⟨fun e => absurd e (by decide), fun q => absurd q.2 hz⟩⟩
  · obtain ⟨s1, q, l1⟩ := getK_out h hs 2 (by
      by_cases h0 : uw (h + (0 : Nat)) < (W.length : Int)
      · exact ⟨1, by omega, fun h1 => hin ⟨h0, h1⟩⟩
      · exact ⟨0, by omega, h0⟩)
    change getsF h 2 s = _ at q
    rw [bnd_no q (by decide)]
    exact ⟨4, s1, by rw [if_neg (by decide)], l1, .inr (.inr rfl), ⟨fun e => absurd e (by decide), fun q => absurd q.1 hin⟩⟩
theorem allF_lk {W : List Int} (hW : ∀ x ∈ W, isW x) {s : Wd} (hs : Lk W s) (h : Int) :
    ∃ F e s1, allF h s = ((F, e), s1) ∧ Lk W s1 ∧ (e = 0 ∨ e = 340 ∨ e = 4) ∧ (e ≠ 0 → F = []) ∧ (e = 0 → inH W h ∧ ∃ L, F = L.map (ndT W) ∧ Snd W (cnH W h) (rtH W h) L) ∧
      (inH W h → cnH W h ≤ 2147483647 → (∃ L, Snd W (cnH W h) (rtH W h) L) → e = 0) := by
  unfold allF
  have hcn : isW (cnH W h) := oat_isW hW _
  have hrt : isW (rtH W h) := oat_isW hW _
  obtain ⟨e0, s1, q1, l1, c1, i1⟩ := hep_lk hs h
  by_cases he0 : e0 = 0
  · subst he0
    rw [if_pos rfl] at q1
    obtain ⟨hin, hz⟩ := i1.1 rfl
    rw [bnd_ok q1]
    show ∃ F e s1', (if 2147483647 < cnH W h then err [] 340 else bnd (folF (cnH W h) none (rtH W h) []) (fun r => bnd (wlkF (cnH W h) 2147483649 0 r.toList) (fun F => if (F.length : Int) ≠ cnH W h then err [] 340 else rtn F) []) []) s1 = ((F, e), s1') ∧ _
    generalize hn : cnH W h = n at *
    generalize hr : rtH W h = r at *
    by_cases hbig : 2147483647 < n
    · rw [if_pos hbig]
      exact ⟨[], 340, s1, rfl, l1, .inr (.inl rfl), fun _ => rfl, fun e => absurd e (by decide), fun _ q _ => absurd hbig (by omega)⟩
    · rw [if_neg hbig]
      obtain ⟨e2, s2, q2, l2, i2, c2⟩ := fol_lk l1 n none (x := r) (xs := []) (fun x hx => by simp at hx)
      change folF n none r [] s1 = _ at q2
      by_cases hf : flO W n none r []
      · obtain rfl := i2.2 hf
        rw [if_pos hf] at q2
        rw [bnd_ok q2, kd1_map]
        have hI := inv_start hrt hcn.1 hf
        obtain ⟨F3, e3, s3, q3, l3, c3, o3⟩ := wlk_any hW 2147483649 0 (kd1 r) s2 l2 hI
        have hyes : (∃ L, Snd W n r L) → e3 = 0 ∧ (F3.length : Int) = n := by
          rintro ⟨L, hL⟩
          have hlen := hL.len
          obtain ⟨ys, s4, q4, _, h4⟩ := wlk_yes hW hL 2147483649 0 (kd1 r) s2 l2 hI (by omega)
          rw [q3] at q4
          simp only [Prod.mk.injEq] at q4
          obtain ⟨⟨rfl, rfl⟩, _⟩ := q4
          refine ⟨rfl, ?_⟩
          rw [List.length_map]
          exact hL.all h4
        by_cases he3 : e3 = 0
        · subst he3
          obtain ⟨ys, rfl, hy⟩ := o3 rfl
          rw [bnd_ok q3]
          by_cases hl : ((ys.map (ndT W)).length : Int) ≠ n
          · refine ⟨[], 340, s3, by rw [if_pos hl]; rfl, l3, .inr (.inl rfl), fun _ => rfl, fun e => absurd e (by decide), fun _ _ q => absurd (hyes q).2 hl⟩
          · have hl2 : (ys.length : Int) = n := by
              rw [List.length_map] at hl
              omega
            exact ⟨_, 0, s3, by rw [if_neg hl]; rfl, l3, .inl rfl, fun e => absurd rfl e, fun _ => ⟨hin, ys, rfl, hy.snd hl2⟩, fun _ _ _ => rfl⟩
        · rw [bnd_no q3 he3]
          exact ⟨[], e3, s3, rfl, l3, c3, fun _ => rfl, fun e => absurd e he3, fun _ _ q => (hyes q).1⟩
      · have he2 : e2 ≠ 0 := fun e => hf (i2.1 e)
        rw [bnd_no q2 he2]
        exact ⟨[], e2, s2, rfl, l2, c2, fun _ => rfl, fun e => absurd e he2, fun _ _ q => by
          obtain ⟨L, hL⟩ := q
          exact absurd hL.start hf⟩
  · rw [bnd_no q1 he0]
    exact ⟨[], e0, s1, rfl, l1, c1, fun _ => rfl, fun e => absurd e he0, fun hin _ q => by
      obtain ⟨L, hL⟩ := q
      exact i1.2 ⟨hin, hL.zero⟩⟩
end Go.Proofs.Ytalopkllldnipaa


/- The document's Stands, as a plain function, and what it finds (layer 24), pure. No statement of the seat is proved here. -/
namespace Go.Proofs.Ytalopkllldnipaa
open Go.RowKit

/-- May this node stand? -/
def stO (W : List Int) (n : Int) (M : List Int) (c : Int) (y u : Int) : Prop :=
  y ∉ M ∧ okN W y = true ∧ c < n ∧ reK (oat (ndL W y) 0) = true ∧ (inN W (lfN W y) && inN W (riN W y)) = true ∧ rkO W y ∧ (u = 0 ∨ ¬ befE (enN W y) (enN W u))
open Classical in
/-- The rounds: those that were led to, those that wait, each with the one that leads to it, and the entries. -/
noncomputable def stS (W : List Int) (n : Int) : Nat → List Int → List (Int × Int) → List (Int × Int) → Option (List (Int × Int))
  | 0, _, _, _ => none
  | k + 1, M, Wt, O => match Wt.getLast? with
    | none => some O
    | some p => if stO W n M O.length p.1 p.2 then stS W n k (M ++ [p.1]) (Wt.dropLast ++ (kdN W p.1).map (fun y => (y, p.1))) (insE (enN W p.1) O) else none
structure Sv (W : List Int) (r : Int) (M : List Int) (Wt O : List (Int × Int)) : Prop where
  wd : ∀ x ∈ M, isW x
  wt : ∀ p ∈ Wt, isW p.1 ∧ p.1 ≠ 0
  nd : M.Nodup
  pm : (M ++ Wt.map Prod.fst).Perm (kd1 r ++ M.flatMap (kdN W))
  he : ∀ x ∈ M, heN W x
  rk : ∀ x ∈ M, rkO W x
  od : ∀ x ∈ M, ∀ y ∈ kdN W x, (y, x) ∈ Wt ∨ ¬ befE (enN W y) (enN W x)
  up : ∀ p ∈ Wt, p.2 = 0 ∨ (p.2 ∈ M ∧ p.1 ∈ kdN W p.2)
  re : (∀ x ∈ M, Rch W r x) ∧ ∀ p ∈ Wt, Rch W r p.1
  out : O = sortE (M.map (enN W))
theorem sortE_add (l : List (Int × Int)) (x : Int × Int) : sortE (l ++ [x]) = insE x (sortE l) := by
  unfold sortE
  rw [List.foldl_append]
  rfl
theorem insE_len (x : Int × Int) (l : List (Int × Int)) : (insE x l).length = l.length + 1 := by
  induction l with
  | nil => rfl
  | cons y l ih =>
    unfold insE
    split
    · rfl
    · simp [ih]
theorem sortE_len (l : List (Int × Int)) : (sortE l).length = l.length := by
  suffices h : ∀ (l a : List (Int × Int)), (l.foldl (fun l x => insE x l) a).length = a.length + l.length by
    have q := h l []
    simpa [sortE] using q
  intro l
  induction l with
  | nil => intro a; rfl
  | cons x l ih =>
    intro a
    rw [List.foldl_cons, ih, insE_len, List.length_cons]
    omega
theorem Sv.olen {W : List Int} {r : Int} {M : List Int} {Wt O : List (Int × Int)} (h : Sv W r M Wt O) : O.length = M.length := by
  rw [h.out, sortE_len, List.length_map]
theorem Sv.start {W : List Int} {r : Int} (hr : isW r) : Sv W r [] ((kd1 r).map (fun y => (y, 0))) [] := by
  refine ⟨fun x hx => by simp at hx, fun p hp => ?_, List.nodup_nil, ?_, fun x hx => by simp at hx, fun x hx => by simp at hx, fun x hx => by simp at hx, fun p hp => ?_, ⟨fun x hx => by simp at hx, fun p hp => ?_⟩, rfl⟩
  · obtain ⟨y, hy, rfl⟩ := List.mem_map.1 hp
    obtain ⟨rfl, h0⟩ := kd1_mem.1 hy
    exact ⟨hr, h0⟩
  · have e : ((kd1 r).map (fun y => ((y, 0) : Int × Int))).map Prod.fst = kd1 r := by rw [List.map_map]; exact List.map_id' _
    rw [e]
    simp
  · obtain ⟨y, _, rfl⟩ := List.mem_map.1 hp
    exact .inl rfl
  · obtain ⟨y, hy, rfl⟩ := List.mem_map.1 hp
    obtain ⟨rfl, h0⟩ := kd1_mem.1 hy
    exact .root h0
theorem last_split {α : Type} {l : List α} {x : α} (h : l.getLast? = some x) : l = l.dropLast ++ [x] := by
  have hne : l ≠ [] := fun e => by rw [e] at h; cases h
  rw [List.getLast?_eq_some_getLast hne] at h
  injection h with h
  rw [← h]
  exact (List.dropLast_concat_getLast hne).symm
theorem Sv.step {W : List Int} (hW : ∀ x ∈ W, isW x) {n r : Int} {M : List Int} {Wt O : List (Int × Int)} {p : Int × Int} (h : Sv W r M Wt O) (hl : Wt.getLast? = some p) (ho : stO W n M O.length p.1 p.2) :
    Sv W r (M ++ [p.1]) (Wt.dropLast ++ (kdN W p.1).map (fun y => (y, p.1))) (insE (enN W p.1) O) := by
  obtain ⟨y, u⟩ := p
  have hs := last_split hl
  generalize Wt.dropLast = V at *
  subst hs
  obtain ⟨o1, o2, _, o4, _, o6, o7⟩ := ho
  have hyw := h.wt (y, u) (by simp)
  have hfst : ((kdN W y).map (fun z => ((z, y) : Int × Int))).map Prod.fst = kdN W y := by rw [List.map_map]; exact List.map_id' _
  refine ⟨fun x hx => ?_, fun q hq => ?_, ?_, ?_, fun x hx => ?_, fun x hx => ?_, fun x hx z hz => ?_, fun q hq => ?_, ⟨fun x hx => ?_, fun q hq => ?_⟩, ?_⟩
  · rcases List.mem_append.1 hx with e | e
    · exact h.wd x e
    · simp at e; rw [e]; exact hyw.1
  · rcases List.mem_append.1 hq with e | e
    · exact h.wt q (by simp [e])
    · obtain ⟨z, hz, rfl⟩ := List.mem_map.1 e
      exact kdN_wd hW hz
  · rw [List.nodup_append]
    refine ⟨h.nd, by simp, fun a ha b hb e => ?_⟩
    simp at hb
    subst e hb
    exact o1 ha
  · rw [List.map_append, hfst, List.flatMap_append]
    have q := h.pm
    rw [List.map_append] at q
    have e1 : [y].flatMap (kdN W) = kdN W y := by simp
    rw [e1, ← List.append_assoc, ← List.append_assoc]
    refine List.Perm.append_right _ ?_
    refine List.Perm.trans ?_ q
    rw [List.append_assoc]
    refine List.Perm.append_left _ ?_
    exact List.perm_append_comm
  · rcases List.mem_append.1 hx with e | e
    · exact h.he x e
    · simp at e; rw [e]; exact ⟨o2, o4⟩
  · rcases List.mem_append.1 hx with e | e
    · exact h.rk x e
    · simp at e; rw [e]; exact o6
  · rcases List.mem_append.1 hx with e | e
    · rcases h.od x e z hz with f | f
      · rcases List.mem_append.1 f with f | f
        · exact .inl (List.mem_append_left _ f)
        · simp at f
          obtain ⟨rfl, rfl⟩ := f
          rcases o7 with g | g
          · have hx0 : x ≠ 0 := fun e0 => by
              have hr2 := h.re.1 x e
              cases hr2 with
              | root hh => exact hh e0
              | kid _ hk => exact (kdN_wd hW hk).2 e0
            exact absurd g hx0
          · exact .inr g
      · exact .inr f
    · simp at e
      subst e
      exact .inl (List.mem_append_right _ (List.mem_map_of_mem hz))
  · rcases List.mem_append.1 hq with e | e
    · rcases h.up q (by simp [e]) with f | f
      · exact .inl f
      · exact .inr ⟨List.mem_append_left _ f.1, f.2⟩
    · obtain ⟨z, hz, rfl⟩ := List.mem_map.1 e
      exact .inr ⟨by simp, hz⟩
  · rcases List.mem_append.1 hx with e | e
    · exact h.re.1 x e
    · simp at e; rw [e]; exact h.re.2 (y, u) (by simp)
  · rcases List.mem_append.1 hq with e | e
    · exact h.re.2 q (by simp [e])
    · obtain ⟨z, hz, rfl⟩ := List.mem_map.1 e
      exact .kid (h.re.2 (y, u) (by simp)) hz
  · rw [List.map_append, h.out]
    exact (sortE_add _ _).symm
/-- What the rounds end with is a heap that is sound. -/
theorem stS_snd {W : List Int} (hW : ∀ x ∈ W, isW x) {n r : Int} : ∀ (k : Nat) (M : List Int) (Wt O : List (Int × Int)) (R : List (Int × Int)), Sv W r M Wt O → stS W n k M Wt O = some R → ∃ M', Sv W r M' [] R
  | 0, _, _, _, _, _, h => by cases h
  | k + 1, M, Wt, O, R, hS, h => by
    unfold stS at h
    cases hl : Wt.getLast? with
    | none =>
      rw [hl] at h
      cases h
      have e : Wt = [] := List.getLast?_eq_none_iff.1 hl
      subst e
      exact ⟨M, hS⟩
    | some p =>
      rw [hl] at h
      dsimp only at h
      split at h
      · rename_i ho
        exact stS_snd hW k _ _ _ R (hS.step hW hl ho) h
      · cases h
theorem Sv.snd {W : List Int} {n r : Int} {M : List Int} {R : List (Int × Int)} (h : Sv W r M [] R) (hn : (R.length : Int) = n) : Snd W n r M := by
  have q := h.pm
  simp only [List.map_nil, List.append_nil] at q
  refine ⟨h.wd, h.nd, q, h.he, fun x hx => ⟨h.rk x hx, fun y hy => ?_⟩, by rw [← h.olen]; exact hn, h.re.1⟩
  rcases h.od x hx y hy with f | f
  · simp at f
  · exact f
/-- A heap that is sound is found. -/
theorem stS_yes {W : List Int} (hW : ∀ x ∈ W, isW x) {n r : Int} {L : List Int} (hL : Snd W n r L) : ∀ (k : Nat) (M : List Int) (Wt O : List (Int × Int)), Sv W r M Wt O → L.length - M.length < k → ∃ R, stS W n k M Wt O = some R
  | 0, _, _, _, _, hk => absurd hk (by omega)
  | k + 1, M, Wt, O, hS, hk => by
    unfold stS
    cases hl : Wt.getLast? with
    | none => exact ⟨O, rfl⟩
    | some p =>
      have hs := last_split hl
      have hpm := hS.pm
      have hup := hS.up p (by rw [hs]; simp)
      have hre := hS.re.2 p (by rw [hs]; simp)
      have ho : stO W n M O.length p.1 p.2 := by
        obtain ⟨p1, p2, p3⟩ := hL.part hS.nd (fun x hx => hL.closed (hS.re.1 x hx))
        have nd := hpm.symm.nodup p1
        have hlen := hpm.length_eq
        have hyL := hL.closed hre
        have hok := hL.ok _ hyL
        have hkid : ∀ z ∈ kdN W p.1, okN W z = true := fun z hz => (hL.he z (hL.closed (.kid hre hz))).1
        have hmem : p.1 ∈ Wt.map Prod.fst := by rw [hs]; simp
        refine ⟨fun hin => (List.nodup_append.1 nd).2.2 _ hin _ hmem rfl, (hL.he _ hyL).1, ?_, (hL.he _ hyL).2, ?_, hok.1, ?_⟩
        · have hpos := List.length_pos_of_mem hmem
          rw [List.length_append] at hlen
          rw [hS.olen]
          omega
        · rw [Bool.and_eq_true]
          constructor
          · unfold inN
            split
            · rfl
            · rename_i h0
              exact hkid _ (List.mem_append_left _ (kd1_mem.2 ⟨rfl, h0⟩))
          · unfold inN
            split
            · rfl
            · rename_i h0
              exact hkid _ (List.mem_append_right _ (kd1_mem.2 ⟨rfl, h0⟩))
        · rcases hup with f | f
          · exact .inl f
          · exact .inr ((hL.ok _ (hL.closed (hS.re.1 _ f.1))).2 _ f.2)
      dsimp only
      rw [if_pos ho]
      have hn := hS.step hW hl ho
      have hlt : M.length < L.length := by
        have h1 := ho.2.2.1
        rw [hS.olen] at h1
        have h2 := hL.len
        omega
      exact stS_yes hW hL k _ _ _ hn (by rw [List.length_append]; simp; omega)
end Go.Proofs.Ytalopkllldnipaa


/- Over any words: All tells what the document's Stands finds, and refuses where it finds none (layer 24), pure. No statement of the seat is proved here. -/
namespace Go.Proofs.Ytalopkllldnipaa
open Go.RowKit

theorem Snd.same {W : List Int} {n r : Int} {L M : List Int} (h : Snd W n r L) (g : Snd W n r M) : L.Perm M := by
  obtain ⟨R, hR⟩ := part_of M L g.nd (fun x hx => h.closed (g.re x hx))
  have hl := hR.length_eq
  rw [List.length_append] at hl
  have h1 := h.len
  have h2 := g.len
  have hR0 : R = [] := List.eq_nil_of_length_eq_zero (by omega)
  rw [hR0, List.append_nil] at hR
  exact hR
/-- Stands finds these entries. -/
def Fnd (W : List Int) (h : Int) (k : Nat) (O : List (Int × Int)) : Prop :=
  inH W h ∧ stS W (cnH W h) k [] ((kd1 (rtH W h)).map (fun y => (y, 0))) [] = some O ∧ (O.length : Int) = cnH W h
theorem wild_all {W : List Int} (hW : ∀ x ∈ W, isW x) {s : Wd} (hs : Lk W s) (h : Int) (k : Nat) (hsmall : inH W h → cnH W h ≤ 2147483647) (hk : inH W h → cnH W h < (k : Int)) :
    ∃ l e s1, Wd.rall h s = ((l, e), s1) ∧ Lk W s1 ∧ ((∃ O, Fnd W h k O) → e = 0) ∧ (∀ O, Fnd W h k O → l = O) ∧ ((¬ ∃ O, Fnd W h k O) → (e = 340 ∨ e = 4) ∧ l = []) := by
  obtain ⟨F, e, s1, q, l1, c1, z1, o1, i1⟩ := allF_lk hW hs h
  have hrt : isW (rtH W h) := oat_isW hW _
  have found : ∀ O, Fnd W h k O → ∃ M, Snd W (cnH W h) (rtH W h) M ∧ O = sortE (M.map (enN W)) := by
    rintro O ⟨_, h2, h3⟩
    obtain ⟨M, hM⟩ := stS_snd hW _ _ _ _ _ (Sv.start hrt) h2
    exact ⟨M, hM.snd h3, hM.out⟩
  have back : ∀ L, inH W h → Snd W (cnH W h) (rtH W h) L → ∃ O, Fnd W h k O := by
    intro L hin hL
    have hlen := hL.len
    have hkk := hk hin
    obtain ⟨R, hR⟩ := stS_yes hW hL k [] _ [] (Sv.start hrt) (by simp; omega)
    obtain ⟨M, hM⟩ := stS_snd hW _ _ _ _ _ (Sv.start hrt) hR
    refine ⟨R, hin, hR, ?_⟩
    obtain ⟨R', hR'⟩ := part_of L M hL.nd (fun x hx => by
      have q := hM.pm
      simp only [List.map_nil, List.append_nil] at q
      have hx2 := hL.re x hx
      induction hx2 with
      | root h0 => exact q.mem_iff.2 (List.mem_append_left _ (kd1_mem.2 ⟨rfl, h0⟩))
      | kid hy hz ih => exact q.mem_iff.2 (List.mem_append_right _ (List.mem_flatMap.2 ⟨_, ih (hL.closed hy), hz⟩)))
    obtain ⟨R2, hR2⟩ := part_of M L hM.nd (fun x hx => hL.closed (hM.re.1 x hx))
    have l1 := hR'.length_eq
    have l2 := hR2.length_eq
    rw [List.length_append] at l1 l2
    rw [hM.olen]
    omega
  unfold Wd.rall
  by_cases he : e = 0
  · subst he
    obtain ⟨hin, L, rfl, hL⟩ := o1 rfl
    have hent : (L.map (ndT W)).map Tr.ent = L.map (enN W) := by rw [List.map_map]; rfl
    refine ⟨sortE (L.map (enN W)), 0, s1, by rw [bnd_ok q, hent]; rfl, l1, fun _ => rfl, fun O hO => ?_, fun hno => absurd (back L hin hL) hno⟩
    obtain ⟨M, hM, rfl⟩ := found O hO
    exact ord_unique _ _ ((sortE_perm _).trans (((hL.same hM).map _).trans (sortE_perm _).symm)) (sortE_ord _) (sortE_ord _)
  · have hno : ¬ ∃ O, Fnd W h k O := by
      rintro ⟨O, hO⟩
      obtain ⟨M, hM, _⟩ := found O hO
      exact he (i1 hO.1 (hsmall hO.1) ⟨M, hM⟩)
    refine ⟨[], e, s1, bnd_no q he, l1, fun f => absurd f hno, fun O hO => absurd ⟨O, hO⟩ hno, fun _ => ⟨?_, rfl⟩⟩
    rcases c1 with z | z | z
    · exact absurd z he
    · exact .inl z
    · exact .inr z
end Go.Proofs.Ytalopkllldnipaa
