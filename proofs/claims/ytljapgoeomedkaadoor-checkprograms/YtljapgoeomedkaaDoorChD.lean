
/- The list of points and the table of what is found, while ways are gone along. No statement of the seat is proved here. -/
import Derived.Test.YtljapgoeomedkaaDoorChC
namespace Go.Proofs.YtljapgoeomedkaaDoor
open Go.RowKit Go.Shelf

theorem nodup_le : ∀ (m : Nat) (l : List Nat), l.Nodup → (∀ x ∈ l, x < m) → l.length ≤ m
  | 0, l, _, h => by
    cases l with
    | nil => simp
    | cons x l => exact absurd (h x (by simp)) (by omega)
  | m + 1, l, hn, h => by
    by_cases hm : m ∈ l
    · have := nodup_le m (l.erase m) (hn.erase m) (fun x hx => by
        have h1 := h x (List.mem_of_mem_erase hx)
        have h2 : x ≠ m := fun e => by subst e; exact (List.Nodup.not_mem_erase hn) hx
        omega)
      rw [List.length_erase_of_mem hm] at this
      omega
    · have := nodup_le m l hn (fun x hx => by
        have h1 := h x hx
        have h2 : x ≠ m := fun e => hm (e ▸ hx)
        omega)
      omega
theorem pts_le {n : Nat} {L : List (Nat × Bool)} (hn : L.Nodup) (h : ∀ x ∈ L, x.1 < n) : L.length ≤ 2 * n := by
  have h1 := nodup_le (2 * n) (L.map fun x => 2 * x.1 + x.2.toNat) (by
    refine List.Pairwise.map _ ?_ hn
    intro x y hxy e
    apply hxy
    obtain ⟨a, s⟩ := x
    obtain ⟨b, t⟩ := y
    dsimp only at e
    have : s.toNat ≤ 1 := by cases s <;> decide
    have : t.toNat ≤ 1 := by cases t <;> decide
    obtain rfl : a = b := by omega
    have : s.toNat = t.toNat := by omega
    cases s <;> cases t <;> simp_all) (by
    intro y hy
    obtain ⟨x, hx, rfl⟩ := List.mem_map.1 hy
    have := h x hx
    have : x.2.toNat ≤ 1 := by cases x.2 <;> decide
    omega)
  simpa using h1

/-- Where a list of points is. -/
def ptV (L : List (Nat × Bool)) : List Value := L.flatMap fun x => [.int .i64 x.1, .int .i64 (sideN x.2)]
theorem ptV_len (L : List (Nat × Bool)) : (ptV L).length = L.length * 2 := by
  induction L with
  | nil => rfl
  | cons x L ih => simp only [ptV, List.flatMap_cons, List.length_append, List.length_cons, List.length_nil] at *; omega
theorem ptV_at : ∀ (L : List (Nat × Bool)) (k : Nat) (hk : k < L.length), (ptV L)[k * 2]? = some (.int .i64 (L[k]).1) ∧ (ptV L)[k * 2 + 1]? = some (.int .i64 (sideN (L[k]).2))
  | [], k, hk => absurd hk (by simp)
  | x :: L, 0, _ => ⟨rfl, rfl⟩
  | x :: L, k + 1, hk => by
    have h := ptV_at L k (by simpa using hk)
    have e : ptV (x :: L) = [.int .i64 x.1, .int .i64 (sideN x.2)] ++ ptV L := rfl
    rw [e, List.getElem?_append_right (by simp; omega), List.getElem?_append_right (by simp; omega)]
    have e2 : (k + 1) * 2 - [Value.int .i64 x.1, .int .i64 (sideN x.2)].length = k * 2 := by simp; omega
    have e3 : (k + 1) * 2 + 1 - [Value.int .i64 x.1, .int .i64 (sideN x.2)].length = k * 2 + 1 := by simp; omega
    rw [e2, e3]
    simpa using h
theorem info_pt : (Tryd.prog.info? 108).map (fun i => (i.zero, i.size, i.bytes)) = some (some (.agg #[.int .i64 0, .int .i64 0]), 2, 16) := by kernel_rfl
structure Pts (w : World) (base : Nat) (v : Value) (L : List (Nat × Bool)) : Prop where
  own : w.ownsRow base 108 2 v L.length (ptV L)
  base : base ≤ w.heap.size
theorem Pts.keeps {w w' : World} {base : Nat} {v : Value} {l : List (Nat × Bool)} {S : Nat → Prop} (h : Pts w base v l) (k : Keeps S w w') (hs : ∀ g, v.ownBlock = some g → ¬ S g) : Pts w' base v l :=
  ⟨own_keeps h.own k hs, Nat.le_trans h.base k.size⟩
theorem Pts.push {w : World} {base : Nat} {v : Value} {l : List (Nat × Bool)} (h : Pts w base v l) (x : Nat) (s : Bool) (hb : (l.length + 1) * 16 ≤ 140737488355328) :
    ∃ v' w', (Builtin.append_ #[109, 109] 109 #[v, .slice (some ⟨w.heap.size, 0, none⟩) 1 1]).run Tryd.prog (w.alloc (.cells #[.int .i64 x, .int .i64 (sideN s)] 108)) = .ok v' w' ∧ Pts w' base v' (l ++ [(x, s)]) ∧ Grew w w' v v' := by
  have k0 := (Keeps.refl (fun _ => False) w).alloc (.cells #[.int .i64 x, .int .i64 (sideN s)] 108)
  have h0 := h.keeps k0 (fun _ _ f => f)
  obtain ⟨v', w', h1, h2, h3, h4⟩ := own_push (P := Tryd.prog) (w.alloc (.cells #[.int .i64 x, .int .i64 (sideN s)] 108)) base 109 109 108 _ 2 16 Tryd.underlying109 info_pt rfl (by decide) v l.length _ h0.own ⟨w.heap.size, 0, none⟩ 1 1 [.int .i64 x, .int .i64 (sideN s)] rfl (fun j u hj => by
    match j with
    | 0 => simp at hj; subst hj; rw [addr_add, cell_of_block (MapKept.heap_alloc _ _).1]; rfl
    | 1 => simp at hj; subst hj; rw [addr_add, cell_of_block (MapKept.heap_alloc _ _).1]; rfl
    | j + 2 => simp at hj) (by simp [Value.oneCell']) (by omega) (by decide) h0.base
  refine ⟨v', w', h1, ⟨by simpa [ptV] using h2, Nat.le_trans h0.base h3.size⟩, Grew.ahead k0 ⟨(Keeps.refl _ _).grown h3 fun k hk => .inr hk, h4⟩⟩
theorem Pts.form {w : World} {base : Nat} {v : Value} {L : List (Nat × Bool)} (h : Pts w base v L) : ∃ b c, v = .slice b L.length c := by
  rcases h.own.2 with ⟨rfl, h2⟩ | ⟨g, cap, cur, rfl, _⟩
  · exact ⟨none, 0, by rw [h2]⟩
  · exact ⟨_, cap, rfl⟩
theorem Pts.at {w : World} {base : Nat} {b : Option Addr} {n c : Nat} {L : List (Nat × Bool)} (h : Pts w base (.slice b n c) L) (k : Nat) (hk : k < L.length) : ∃ g, b = some ⟨g, 0, none⟩ ∧ base ≤ g ∧ w.cell? ⟨g, k * 2, none⟩ = some (.int .i64 (L[k]'hk).1) ∧ w.cell? ⟨g, k * 2 + 1, none⟩ = some (.int .i64 (sideN (L[k]'hk).2)) := by
  rcases h.own.2 with ⟨_, h2⟩ | ⟨g, cap, cur, hv, h1, h2, h3, h4, h5, h6⟩
  · omega
  · cases hv
    obtain ⟨e0, e1⟩ := ptV_at L k hk
    rw [← h6, List.getElem?_take_of_lt (by omega)] at e0 e1
    exact ⟨g, rfl, h1, by rw [cell_of_block h2]; simpa using e0, by rw [cell_of_block h2]; simpa using e1⟩
theorem Pts.one (w : World) : Pts (w.alloc (.cells #[.int .i64 0, .int .i64 0] 108)) w.heap.size (.slice (some ⟨w.heap.size, 0, none⟩) 1 1) [(0, false)] :=
  ⟨⟨rfl, .inr ⟨w.heap.size, 1, _, rfl, Nat.le_refl _, (MapKept.heap_alloc _ _).1, Nat.le_refl _, by decide, rfl, rfl⟩⟩, by simp⟩
theorem Pts.base_le {w : World} {b b' : Nat} {v : Value} {L : List (Nat × Bool)} (h : Pts w b v L) (hb : b' ≤ b) : Pts w b' v L :=
  ⟨⟨h.own.1, by
    rcases h.own.2 with h2 | ⟨g, cap, cur, hv, h1, h2⟩
    · exact .inl h2
    · exact .inr ⟨g, cap, cur, hv, Nat.le_trans hb h1, h2⟩⟩, Nat.le_trans hb h.base⟩

/-- The table of what is found: of each place whether ways lead to it, outside and inside. -/
def Fnd (w : World) (f n : Nat) (R : Nat → Bool → Bool) : Prop := ∃ c, w.heap[f]? = some (.cells c 76 (0, 0)) ∧ c.size = n * 2 ∧ ∀ a, a < n → c[a * 2]? = some (.bool (R a false)) ∧ c[a * 2 + 1]? = some (.bool (R a true))
theorem Fnd.keeps {w w' : World} {f n : Nat} {R : Nat → Bool → Bool} {S : Nat → Prop} (h : Fnd w f n R) (k : Keeps S w w') (hs : ¬ S f) : Fnd w' f n R := by
  obtain ⟨c, h1, h2, h3⟩ := h
  exact ⟨c, (k.block f (lt_of_block h1) hs).trans h1, h2, h3⟩
theorem Fnd.cell {w : World} {f n : Nat} {R : Nat → Bool → Bool} (h : Fnd w f n R) {a : Nat} (ha : a < n) : w.cell? ⟨f, a * 2, none⟩ = some (.bool (R a false)) ∧ w.cell? ⟨f, a * 2 + 1, none⟩ = some (.bool (R a true)) := by
  obtain ⟨c, h1, h2, h3⟩ := h
  rw [cell_of_block h1, cell_of_block h1]
  exact h3 a ha
theorem Fnd.lt {w : World} {f n : Nat} {R : Nat → Bool → Bool} (h : Fnd w f n R) : f < w.heap.size := by
  obtain ⟨c, h1, _⟩ := h
  exact lt_of_block h1
theorem Fnd.frozen {w : World} {f n : Nat} {R : Nat → Bool → Bool} (h : Fnd w f n R) (i : Nat) : w.frozen? ⟨f, i, none⟩ = false := by
  obtain ⟨c, h1, _⟩ := h
  exact frozen_of_block h1 i
def markR (R : Nat → Bool → Bool) (b : Nat) (t : Bool) (a : Nat) (s : Bool) : Bool := R a s || (decide (a = b) && (s == t))
theorem Fnd.mark {w : World} {f n : Nat} {R : Nat → Bool → Bool} (h : Fnd w f n R) {b : Nat} (hb : b < n) (t : Bool) : Fnd (w.setCell ⟨f, b * 2 + t.toNat, none⟩ (.bool true)) f n (markR R b t) := by
  obtain ⟨c, h1, h2, h3⟩ := h
  refine ⟨_, block_set h1 _ _, by simpa using h2, fun a ha => ?_⟩
  obtain ⟨q0, q1⟩ := h3 a ha
  have ht : t.toNat ≤ 1 := by cases t <;> decide
  rw [Array.getElem?_setIfInBounds, Array.getElem?_setIfInBounds]
  unfold markR
  by_cases hab : a = b
  · subst hab
    cases t
    · simp only [Bool.toNat_false, Nat.add_zero, if_true]
      rw [if_pos (by omega), if_neg (by omega)]
      simp [q1]
    · simp only [Bool.toNat_true, if_true]
      rw [if_neg (by omega), if_pos (by omega)]
      simp [q0]
  · rw [if_neg (by omega), if_neg (by omega)]
    simp [q0, q1, hab]
theorem markR_mem (L : List (Nat × Bool)) (b : Nat) (t : Bool) : markR (fun a s => decide ((a, s) ∈ L)) b t = fun a s => decide ((a, s) ∈ L ++ [(b, t)]) := by
  funext a s
  unfold markR
  rw [Bool.eq_iff_iff]
  simp [List.mem_append]
theorem info_sd : (Tryd.prog.info? 76).map (fun i => (i.zero, i.size, i.bytes)) = some (some (.agg #[.bool false, .bool false]), 2, 2) := by kernel_rfl
/-- make([]sides, n). -/
theorem run_sides (w : World) (n : Nat) (h1 : n ≤ 65536) :
    ∃ x : Array Value, (Instr.makeSlice 72 (.int .i64 (n : Int)) (.int .i64 (n : Int))).run Tryd.prog w = .ok (.slice (some ⟨w.heap.size, 0, none⟩) n n) (w.alloc (.cells x 76)) ∧ Fnd (w.alloc (.cells x 76)) w.heap.size n fun _ _ => false := by
  obtain ⟨i0, hi, hz0, hz1, hz2⟩ := info_parts info_sd
  have h := run_make (P := Tryd.prog) w 72 76 i0 _ Tryd.underlying72 hi hz0 .i64 .i64 (n : Int) (n : Int) (by omega) (Int.le_refl _) (by rw [hz2]; omega) (by omega)
  rw [hz1, Int.toNat_natCast] at h
  refine ⟨_, h, _, (MapKept.heap_alloc _ _).1, ?_, fun a ha => ?_⟩
  · simp [madeCells]
  · have e0 : a * 2 < n * 2 := by omega
    have e1 : a * 2 + 1 < n * 2 := by omega
    constructor
    · simp [madeCells, Value.cells, e0]
    · simp [madeCells, Value.cells, e1, Nat.add_mod]
end Go.Proofs.YtljapgoeomedkaaDoor
