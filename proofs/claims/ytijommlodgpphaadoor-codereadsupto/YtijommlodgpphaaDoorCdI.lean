
/- A line cut at its blanks; strings.SplitN at one blank. No statement of the seat is proved here. -/
import Derived.Test.YtijommlodgpphaaDoorCdH
import Derived.Test.YtijommlodgpphaaDoorLay
import Derived.Lib.SplitLaws
namespace Go.Proofs.YtijommlodgpphaaDoor
open Go.RowKit Go.Shelf

/-- What stands between single blanks. -/
def pcs : List UInt8 → List (List UInt8)
  | [] => [[]]
  | c :: t => if c = 32 then [] :: pcs t else match pcs t with
    | h :: r => (c :: h) :: r
    | [] => [[c]]
theorem pcs_ne (l : List UInt8) : pcs l ≠ [] := by
  cases l with
  | nil => simp [pcs]
  | cons c t => unfold pcs; split; simp; split <;> simp
theorem pcs_le : ∀ l : List UInt8, (pcs l).length ≤ l.length + 1
  | [] => by simp [pcs]
  | c :: t => by
    have := pcs_le t
    unfold pcs
    split
    · simp; exact this
    · split
      · rename_i h; rw [h] at this; simp at this ⊢; omega
      · simp

theorem index_blank : ∀ l : List UInt8, (Lib.index l [32] = -1 ∧ pcs l = [l]) ∨ ∃ i : Nat, Lib.index l [32] = i ∧ pcs l = l.take i :: pcs (l.drop (i + 1)) ∧ i < l.length
  | [] => .inl ⟨by decide, rfl⟩
  | c :: t => by
    by_cases hc : c = 32
    · subst hc
      refine .inr ⟨0, ?_, by simp [pcs], by simp⟩
      exact Lib.index_first (i := 0) (Nat.zero_le _) (by simp [Lib.occAt]) (fun _ h => absurd h (Nat.not_lt_zero _))
    · have hno : Lib.NoOcc (c :: t) [32] 1 := fun j hj => by
        obtain rfl : j = 0 := by omega
        have hc' : ¬ (32 : UInt8) = c := fun h => hc h.symm
        simp [Lib.occAt, List.isPrefixOf, hc']
      have hd := Lib.index_drop hno (by simp)
      simp only [List.drop_succ_cons, List.drop_zero] at hd
      rcases index_blank t with ⟨h1, h2⟩ | ⟨i, h1, h2, h3⟩
      · refine .inl ⟨by rw [hd, h1]; rfl, ?_⟩
        rw [pcs, if_neg hc, h2]
      · refine .inr ⟨i + 1, ?_, ?_, by simp; omega⟩
        · rw [hd, h1, if_neg (by simp)]
          simp
        · rw [pcs, if_neg hc, h2]
          simp

/-- The first k cuts. -/
theorem splitK_pcs : ∀ (k : Nat) (l : List UInt8), ((pcs l).length ≤ k + 1 → Lib.splitK [32] 0 k l = pcs l) ∧ (k + 1 < (pcs l).length → (Lib.splitK [32] 0 k l).length = k + 1 ∧ (1 ≤ k → (Lib.splitK [32] 0 k l).head? = (pcs l).head?))
  | 0, l => by
    refine ⟨fun h => ?_, fun _ => ⟨rfl, by omega⟩⟩
    rcases index_blank l with ⟨_, h2⟩ | ⟨i, _, h2, _⟩
    · rw [h2]; rfl
    · rw [h2] at h
      have := List.length_pos_iff.2 (pcs_ne (l.drop (i + 1)))
      rw [List.length_cons] at h; omega
  | k + 1, l => by
    rcases index_blank l with ⟨h1, h2⟩ | ⟨i, h1, h2, h3⟩
    · refine ⟨fun _ => ?_, fun h => by rw [h2] at h; simp at h⟩
      rw [h2, Lib.splitK, if_pos (by rw [h1]; rfl)]
    · obtain ⟨s1, s2⟩ := splitK_pcs k (l.drop (i + 1))
      have e : Lib.splitK [32] 0 (k + 1) l = l.take i :: Lib.splitK [32] 0 k (l.drop (i + 1)) := by
        rw [Lib.splitK, if_neg (by rw [h1]; simp), h1]
        simp
      rw [e, h2]
      refine ⟨fun h => ?_, fun h => ⟨?_, fun _ => rfl⟩⟩
      · rw [s1 (by simpa using h)]
      · rw [List.length_cons, (s2 (by simpa using h)).1]

/-- The words of a line, four cuts at most. -/
def wds (l : List UInt8) : List (List UInt8) := Lib.splitK [32] 0 (min 5 (l.length + 1) - 1) l
theorem wds_few {l : List UInt8} (h : (pcs l).length ≤ 4) : wds l = pcs l := by
  have := pcs_le l
  refine (splitK_pcs _ l).1 ?_
  omega
theorem wds_many {l : List UInt8} (h : 4 < (pcs l).length) : 4 < (wds l).length := by
  have h1 := pcs_le l
  obtain ⟨a, b⟩ := splitK_pcs (min 5 (l.length + 1) - 1) l
  unfold wds
  by_cases hc : (pcs l).length ≤ min 5 (l.length + 1) - 1 + 1
  · rw [a hc]; exact h
  · rw [(b (by omega)).1]; omega
theorem wds_head (l : List UInt8) : (wds l).head? = (pcs l).head? := by
  by_cases h : (pcs l).length ≤ 4
  · rw [wds_few h]
  · have h1 := pcs_le l
    obtain ⟨a, b⟩ := splitK_pcs (min 5 (l.length + 1) - 1) l
    unfold wds
    by_cases hc : (pcs l).length ≤ min 5 (l.length + 1) - 1 + 1
    · rw [a hc]
    · exact (b (by omega)).2 (by omega)
theorem wds_le (l : List UInt8) : (wds l).length ≤ min 5 (l.length + 1) := by
  have := Lib.splitB_length_le ⟨#[32]⟩ 0 (min 5 (l.length + 1) - 1) ⟨l.toArray⟩
  have h2 := congrArg List.length (Lib.splitB_data ⟨#[32]⟩ 0 (min 5 (l.length + 1) - 1) ⟨l.toArray⟩)
  rw [List.length_map] at h2
  unfold wds
  simp at h2
  omega

theorem hi147 : (Tryd.prog.info? (lays147_ren.t 9)).map (fun i => (i.zero, i.size, i.bytes)) = some (some (.string ByteArray.empty), 1, 16) := by kernel_rfl

/-- What the calls read of the program's variables. -/
structure Gl (w : World) : Prop where
  nms : Nms w
  max : ∃ m, w.cell? ⟨lays147_ren.g 1, 0, none⟩ = some (.int .i64 m)
theorem Gl.keeps {w w' : World} (h : Gl w) (k : Keeps (fun _ => False) w w') : Gl w' := by
  obtain ⟨h1, m, h2⟩ := h
  refine ⟨h1.keeps k (fun f => f), m, ?_⟩
  rw [← h2]
  simp only [World.cell?, k.block _ (World.block_lt_of_cell? _ _ h2) (fun f => f)]

/-- Words as cells, with room behind them. -/
def wcells (L : List (List UInt8)) (n : Nat) : Array Value := (L.map (fun (x : List UInt8) => Value.string ⟨x.toArray⟩) ++ List.replicate (n - L.length) (Value.string ByteArray.empty)).toArray

theorem split_any (l : List UInt8) (hl : l.length < 4294967281) (w : World) (hw : Gl w) :
    Calls Tryd.prog 29 #[.string ⟨l.toArray⟩, .string ⟨#[32]⟩, .int .i64 5] w fun e w' => e = .returned (.slice (some ⟨w.heap.size, 0, none⟩) (wds l).length (min 5 (l.length + 1))) ∧ w' = w.alloc (.cells (wcells (wds l) (min 5 (l.length + 1))) 9) := by
  obtain ⟨m, hm⟩ := hw.max
  have hs : (⟨l.toArray⟩ : ByteArray).size = l.length := by simp [ByteArray.size]
  have h := Any.strings_SplitN lays147 hi147 ⟨l.toArray⟩ ⟨#[32]⟩ 5 m w (by rw [hs]; exact hl) hm (by decide) (by decide) (by decide)
  rw [hs] at h
  have hd := Lib.splitB_data ⟨#[32]⟩ 0 (min 5 (l.length + 1) - 1) ⟨l.toArray⟩
  have e1 : (Lib.splitB ⟨#[32]⟩ 0 (min 5 (l.length + 1) - 1) ⟨l.toArray⟩) = (wds l).map fun x => ⟨x.toArray⟩ := by
    unfold wds
    rw [show (Lib.splitK [32] 0 (min 5 (l.length + 1) - 1) l) = (Lib.splitB ⟨#[32]⟩ 0 (min 5 (l.length + 1) - 1) ⟨l.toArray⟩).map (·.data.toList) from hd.symm]
    rw [List.map_map]
    conv => lhs; rw [← List.map_id (Lib.splitB ⟨#[32]⟩ 0 (min 5 (l.length + 1) - 1) ⟨l.toArray⟩)]
    rfl
  rw [e1] at h
  simp only [List.length_map] at h
  refine h.mono fun e w' ⟨h1, h2⟩ => ⟨h1, ?_⟩
  rw [h2]
  simp [Lib.cellsOf, wcells, Function.comp_def]
  rfl
end Go.Proofs.YtijommlodgpphaaDoor
