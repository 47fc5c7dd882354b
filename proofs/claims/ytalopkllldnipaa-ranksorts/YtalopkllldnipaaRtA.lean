
/- Real numbers in the order of their words: what is told of two that stand one behind the other (layer 24), pure. No statement of the seat is proved here. -/
import Derived.Test.YtalopkllldnipaaRsDM
import Derived.Test.YtalopkllldnipaaRpF
import Derived.Test.YtalopkllldnipaaRoG
namespace Go.Proofs.Ytalopkllldnipaa
open Go.RowKit Bt

theorem reK_ofR {b : Nat} (hb : b < 18446744073709551616) : reK (ofR b) = true := by
  unfold reK
  cases n : nan b
  · unfold ofR
    rw [n, if_neg (by decide)]
    unfold nan at n
    simp only [decide_eq_false_iff_not, decide_eq_true_eq] at n ⊢
    split <;> omega
  · unfold ofR; rw [n]; simp
theorem reB_ofR {b : Nat} (hb : b < 18446744073709551616) (n : nan b = false) : reB (ofR b) = b := by
  unfold ofR
  rw [n, if_neg (by decide)]
  unfold nan at n
  simp only [decide_eq_false_iff_not] at n
  unfold reB
  (repeat' split) <;> omega
theorem reB_ofN {b : Nat} (n : nan b = true) : reB (ofR b) = 9221120237041090561 := by unfold ofR; rw [n, if_pos rfl]; rfl
/-- How two numbers stand, the first one's word not above the other's. -/
inductive Fc (lb xb : Nat) : Prop
  | nn : nan lb = true → nan xb = true → Fc lb xb
  | fn : nan lb = false → nan xb = true → Fc lb xb
  | ff : nan lb = false → nan xb = false → ¬ key xb < key lb → (key xb = key lb → key xb = 0 → 9223372036854775808 ≤ xb → 9223372036854775808 ≤ lb) → Fc lb xb
theorem fcase {lk k : Int} (h1 : reK lk = true) (h2 : reK k = true) (hle : lk ≤ k) : Fc (reB lk) (reB k) := by
  by_cases cl : lk = 18446744073709551615
  · have ck : k = 18446744073709551615 := by
      simp only [reK, decide_eq_true_eq] at h2
      omega
    subst cl ck
    exact .nn (by decide) (by decide)
  · have nl := reB_nan h1 cl
    by_cases ck : k = 18446744073709551615
    · subst ck
      exact .fn nl (by decide)
    · have nk := reB_nan h2 ck
      simp only [reK, decide_eq_true_eq] at h1 h2
      refine .ff nl nk ?_ ?_
      · unfold key reB
        (repeat' split) <;> omega
      · unfold key reB
        (repeat' split) <;> omega
theorem ord_lt {a b : Nat} (ha : a < 18446744073709551616) (hb : b < 18446744073709551616) (na : nan a = false) (nb : nan b = false) : (FloatKind.f64.format.order a b == some Ordering.lt) = decide (key a < key b) := by
  rw [show FloatKind.f64.format.order a b = some (compare (key a) (key b)) from order_key ha hb na nb, cmp_int]
  by_cases h : key a < key b <;> by_cases k : key a = key b <;> simp [h, k] <;> omega
theorem ord_eq {a b : Nat} (ha : a < 18446744073709551616) (hb : b < 18446744073709551616) (na : nan a = false) (nb : nan b = false) : (FloatKind.f64.format.order a b == some Ordering.eq) = decide (key a = key b) := by
  rw [show FloatKind.f64.format.order a b = some (compare (key a) (key b)) from order_key ha hb na nb, cmp_int]
  by_cases h : key a < key b <;> by_cases k : key a = key b <;> simp [h, k] <;> omega
theorem ord_self {a : Nat} (ha : a < 18446744073709551616) (na : nan a = false) : (FloatKind.f64.format.order a a == some Ordering.eq) = true := by rw [ord_eq ha ha na na]; simp
theorem ord_noL {a b : Nat} (n : nan a = true) (o : Option Ordering) (ho : o ≠ none) : (FloatKind.f64.format.order a b == o) = false := by
  rw [show FloatKind.f64.format.order a b = none from order_nan_left n]
  cases o with
  | none => exact absurd rfl ho
  | some o => rfl
theorem ord_noR {a b : Nat} (n : nan b = true) (o : Option Ordering) (ho : o ≠ none) : (FloatKind.f64.format.order a b == o) = false := by
  rw [show FloatKind.f64.format.order a b = none from order_nan_right n]
  cases o with
  | none => exact absurd rfl ho
  | some o => rfl
/-- The entry of the j-th number. -/
def enB (xs : List Int) (j : Nat) : Int × Int := (ofR (oat xs j).toNat, (j : Int))
/-- The law's heaps: the entries of so many numbers. -/
theorem enB_app (xs : List Int) (i : Nat) : (List.range (i + 1)).map (enB xs) = (List.range i).map (enB xs) ++ [enB xs i] := by
  rw [List.range_succ, List.map_append]
  rfl
/-- What the second loop keeps: the entries that are left, which were seen, and the last one's word. -/
structure Lf (xs : List Int) (E : List (Int × Int)) (f : Nat → Bool) (lk : Int) : Prop where
  en : ∀ p ∈ E, ∃ j : Nat, p = enB xs j ∧ j < xs.length ∧ f j = false
  nd : (E.map Prod.snd).Nodup
  lo : ∀ p ∈ E, lk ≤ p.1
  lr : reK lk = true
theorem Lf.start {xs : List Int} (hxs : ∀ x ∈ xs, isW x) {E : List (Int × Int)} (h : E.Perm ((List.range xs.length).map (enB xs))) : Lf xs E (fun _ => false) 4503599627370495 := by
  refine ⟨fun p hp => ?_, ?_, fun p hp => ?_, by decide⟩
  · obtain ⟨j, hj, rfl⟩ := List.mem_map.1 (h.mem_iff.1 hp)
    exact ⟨j, rfl, by simpa using hj, rfl⟩
  · refine (h.map Prod.snd).nodup_iff.2 ?_
    rw [List.map_map]
    exact (List.nodup_range).map _ (fun a b hab e => hab (by have e2 : (a : Int) = (b : Int) := e; omega))
  · obtain ⟨j, hj, rfl⟩ := List.mem_map.1 (h.mem_iff.1 hp)
    have hw := oat_isW hxs j
    have q := reK_ofR (b := (oat xs j).toNat) (by have := hw.1; have := hw.2; omega)
    simp only [reK, decide_eq_true_eq] at q
    show (4503599627370495 : Int) ≤ ofR (oat xs j).toNat
    omega
theorem Lf.step {xs : List Int} {E : List (Int × Int)} {f : Nat → Bool} {lk : Int} {p : Int × Int} (h : Lf xs (p :: E) f lk) (hr : reK p.1 = true) (ho : ∀ q ∈ E, ¬ befE q p) : ∃ j : Nat, p = enB xs j ∧ j < xs.length ∧ f j = false ∧ lk ≤ p.1 ∧ Lf xs E (fun i => if i = j then true else f i) p.1 := by
  obtain ⟨j, hj, hl, hf⟩ := h.en p (by simp)
  have nd := List.nodup_cons.1 (show (p.2 :: E.map Prod.snd).Nodup from h.nd)
  refine ⟨j, hj, hl, hf, h.lo p (by simp), ⟨fun q hq => ?_, nd.2, fun q hq => ?_, hr⟩⟩
  · obtain ⟨i, hi, hl2, hf2⟩ := h.en q (List.mem_cons_of_mem _ hq)
    refine ⟨i, hi, hl2, ?_⟩
    have hne : i ≠ j := fun e => nd.1 (by
      have : p.2 = q.2 := by rw [hj, hi, e]
      rw [this]
      exact List.mem_map_of_mem hq)
    rw [if_neg hne]
    exact hf2
  · have := ho q hq
    unfold befE at this
    omega
theorem Lf.perm {xs : List Int} {E E' : List (Int × Int)} {f : Nat → Bool} {lk : Int} (h : Lf xs E f lk) (p : E.Perm E') : Lf xs E' f lk :=
  ⟨fun q hq => h.en q (p.mem_iff.2 hq), (p.map Prod.snd).nodup_iff.1 h.nd, fun q hq => h.lo q (p.mem_iff.2 hq), h.lr⟩
/-- A room of so many cells with two heaps, as it begins. -/
def begW (m : Nat) : Bool := decide ((B3 m).W = 22 :: (m : Int) :: List.replicate (m - 2) 0)
theorem begw_all : (List.range 361).all (fun j => begW (40 + j)) = true := by kernel_rfl
theorem beg_hp {m : Nat} (h1 : 40 ≤ m) (h2 : m ≤ 400) : Hp (B3 m).W m 18 nil 20 nil [] := by
  have q := List.all_eq_true.1 begw_all (m - 40) (List.mem_range.2 (by omega))
  rw [show 40 + (m - 40) = m by omega] at q
  unfold begW at q
  have hw := of_decide_eq_true q
  have h0 : ∀ c, 2 ≤ c → oat (B3 m).W c = 0 := fun c hc => by
    rw [hw]
    obtain ⟨c', rfl⟩ : ∃ c', c = c' + 2 := ⟨c - 2, by omega⟩
    show oat (List.replicate (m - 2) 0) c' = 0
    unfold oat
    rw [List.getElem?_replicate]
    split <;> rfl
  have e0 : oat (B3 m).W 0 = 22 := by rw [hw]; rfl
  have e1 : oat (B3 m).W 1 = (m : Int) := by rw [hw]; rfl
  refine ⟨⟨by rw [hw]; simp; omega, h1, h2, fun c => ?_, e1, by rw [e0]; rfl, by rw [e0]; omega, List.nodup_nil, fun a ha => by simp [ads] at ha, h0 6 (by omega)⟩, .inl ⟨rfl, rfl⟩, h0 18 (by omega), h0 19 (by omega), h0 20 (by omega), h0 21 (by omega), trivial, trivial, trivial, trivial, fun p hp => by simp [ens] at hp⟩
  match c with
  | 0 => rw [e0]; exact ⟨by omega, by omega⟩
  | 1 => rw [e1]; exact ⟨by omega, by omega⟩
  | c + 2 => rw [h0 (c + 2) (by omega)]; exact ⟨by omega, by omega⟩
end Go.Proofs.Ytalopkllldnipaa
