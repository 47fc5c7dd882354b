
/-
  The calls of LogsRedo, with what they leave of its state. No statement of the seat is proved here.
-/
import Derived.Test.YtbgnlenhncbceaaDoorApaM
import Derived.Test.YtbgnlenhncbceaaDoorRdoS
import Derived.Test.YtbgnlenhncbceaaDoorRdoC
import Derived.Test.YtbgnlenhncbceaaDoorRefOM
import Derived.Test.YtbgnlenhncbceaaDoorNoM
import Derived.Test.YtbgnlenhncbceaaDoorOpenM
namespace Go.Proofs.YtbgnlenhncbceaaDoor
open Go.RowKit Go.Shelf
attribute [local go_sem] Oper.semAt_some

theorem idx2r (on : Int) : ∃ i j : Nat, i + j = 1 ∧ (wrap64 (on.tmod 2 + 2)).tmod 2 = (i : Int) ∧ (1 : Int) - (i : Int) = (j : Int) := by
  have h : on.tmod 2 = -1 ∨ on.tmod 2 = 0 ∨ on.tmod 2 = 1 := by
    have h1 := Int.lt_tmod_of_pos on (show (0 : Int) < 2 by decide)
    have h2 := Int.tmod_lt_of_pos on (show (0 : Int) < 2 by decide)
    omega
  rcases h with h | h | h
  · exact ⟨1, 0, by omega, by rw [h]; decide +kernel, by omega⟩
  · exact ⟨0, 1, by omega, by rw [h]; decide +kernel, by omega⟩
  · exact ⟨1, 0, by omega, by rw [h]; decide +kernel, by omega⟩
theorem keeps_cellr {S : Nat → Prop} {w w' : World} (k : Keeps S w w') {a : Addr} {v : Value} (hs : ¬ S a.block) (h : w.cell? a = some v) : w'.cell? a = some v :=
  (World.cell?_of_block (k.block a.block (World.block_lt_of_cell? _ _ h) hs)).trans h
def opR (kd on ad wd m : Int) (ac : Option Addr) (nc cc : Nat) : Obj := .cells #[.int .i64 kd, .int .i64 on, .int .u64 ad, .int .u64 wd, .int .i64 m, .slice ac nc cc] 41 (0, 0)

section
variable {w X X' : World} {most Ao Ar k mt n : Nat} {f : Nat → Sd} {tl : Value} {T : List Tld} {W : Nat → List Int} {kd on ad wd m : Int} {ac : Option Addr} {nc cc : Nat}
/-- The call of the law's step, with the blocks that it leaves. -/
theorem rplay (h : Stt w X most Ao Ar k mt n f tl T W) (hb : X.heap[n]? = some (opR kd on ad wd m ac nc cc)) {i j : Nat} (hij : i + j = 1) (had : 0 ≤ ad) (hk : k + 1 < 4398046511104) :
    ∀ W0, Like W0 X → Calls Tryd.prog 24 #[.pointer (some ⟨(f i).r, 0, none⟩), .pointer (some ⟨(f i).b, 0, none⟩), .agg #[.int .i64 kd, .int .i64 on, .int .u64 ad, .int .u64 wd, .int .i64 m, .slice ac nc cc]] W0 fun e w4 => e = .returned (.bool true) ∧
      (w4.cell? ⟨Ao, i, none⟩ = some (.pointer (some ⟨(f i).r, 0, none⟩)) ∧ w4.cell? ⟨Ar, i, none⟩ = some (.pointer (some ⟨(f i).b, 0, none⟩)) ∧ w4.cell? ⟨n, 0, none⟩ = some (.int .i64 kd) ∧ w4.cell? ⟨n, 1, none⟩ = some (.int .i64 on) ∧ w4.cell? ⟨n, 2, none⟩ = some (.int .u64 ad) ∧ w4.cell? ⟨n, 3, none⟩ = some (.int .u64 wd) ∧ w4.cell? ⟨n, 4, none⟩ = some (.int .i64 m) ∧ w4.cell? ⟨n, 5, none⟩ = some (.slice ac nc cc)) ∧ Hid (∃ f', Stt w w4 most Ao Ar (k + 1) mt n f' tl T W) := fun W0 hl => by
  have hk0 := hl.keeps (Keeps.refl (fun _ => False) X)
  have hD0 := h.same hk0
  have hb0 := hk0.old hb (fun f => f)
  have hi : i < 2 := by omega
  have hln := h.ln i hi
  refine (redo_step W0 _ _ most _ _ _ (hD0.pr i hi) (by omega) kd on ad wd m ac nc cc had).mono ?_
  rintro e w4 ⟨rfl, hto⟩
  obtain ⟨f', hS, e1, e2, hkk⟩ := hD0.step hij hto (lt_of_block hb0)
  have hb4 := hkk.old hb0 (fun e => (hD0.out i n hi e).2.2.1 rfl)
  have hcl := hS.cells hi
  rw [e1, e2] at hcl
  exact ⟨rfl, ⟨hcl.1, hcl.2, cell_of_block hb4 0, cell_of_block hb4 1, cell_of_block hb4 2, cell_of_block hb4 3, cell_of_block hb4 4, cell_of_block hb4 5⟩, f', hS⟩

/-- Over, and the list that it tells. -/
theorem over_tld {r b : Nat} {L : List (Int × Int)} {Ow Of : Nat → Prop} (h : Pr X r b most L Ow Of) (v : Value) (cs : List Int) (hr : Reads X v cs) (hcb : cs.length * 8 ≤ 140737488351232) :
    Calls Tryd.prog 20 #[.pointer (some ⟨r, 0, none⟩), v] X fun e w' => ∃ (a : Option Addr) (N : Nat) (t : Tld) (E : Int) (ws : List Int), e = .returned (.tuple #[.slice a N N, .int .i64 E]) ∧ tv t = .slice a N N ∧ Reads w' (.slice a N N) ws ∧ ((Within (redoE L) cs.length ∧ E = 0 ∧ ws = overW (redoE L) cs) ∨ (¬ Within (redoE L) cs.length ∧ E = 4 ∧ ws = [])) ∧
      (∀ g, t.1 = some g → w'.heap[g]? = some (.cells (u64s ws) 38 (0, 0)) ∧ ws.length = t.2 ∧ X.heap.size ≤ g) ∧ (t.1 = none → t.2 = 0) ∧ t.2 * 8 ≤ 140737488351232 ∧ Keeps (fun _ => False) X w' := by
  by_cases hw : Within (redoE L) cs.length
  · refine (log_over r most L Ow v cs X h.lg hr ((redoE_from (P := fun k => 0 ≤ k)).2 h.pl) hw).mono ?_
    rintro e w' ⟨g, rfl, h1, h2, h3⟩
    have h4 := lies_block h1 cs.length
    rw [overW_length] at h4
    exact ⟨_, _, (some g, cs.length), 0, _, rfl, rfl, ⟨by rw [overW_length]; exact hr.1, h4⟩, .inl ⟨hw, rfl, rfl⟩, fun q e => by cases e; exact ⟨h1, overW_length _ _, h2⟩, fun e => (by cases e), hcb, h3⟩
  · refine (log_over_no r most L Ow v cs X h.lg hr hw).mono ?_
    rintro e w' ⟨rfl, h1⟩
    exact ⟨none, 0, (none, 0), 4, [], rfl, rfl, ⟨by simp, none, 0, rfl, fun i hi => by simp at hi⟩, .inr ⟨hw, rfl, rfl⟩, fun q e => (by cases e), fun _ => rfl, by simp, h1⟩
theorem over_ref {r b : Nat} {L : List (Int × Int)} {Ow Of : Nat → Prop} (h : Pr X r b most L Ow Of) (hL : L.length < 4398046511104) (v : Value) (cs : List Int) (hr : Reads X v cs) (hcb : cs.length * 8 ≤ 140737488351232) {E : Int} {ws : List Int} (hE : (Within (redoE L) cs.length ∧ E = 0 ∧ ws = overW (redoE L) cs) ∨ (¬ Within (redoE L) cs.length ∧ E = 4 ∧ ws = [])) :
    Calls Tryd.prog 21 #[.pointer (some ⟨b, 0, none⟩), v] X fun e w' => ∃ a c, e = .returned (.tuple #[.slice a ws.length c, .int .i64 E]) ∧ Reads w' (.slice a ws.length c) ws ∧ Keeps (fun _ => False) X w' := by
  obtain ⟨u, hra, _⟩ := h.rf
  refine (ref_over b most L u X hra hL h.lg.fit ((redoE_from (P := fun k => 0 ≤ k)).2 h.pl) v cs hr hcb).mono ?_
  rintro e w' ⟨v', E', ws', rfl, h1, h2, h3⟩
  have heq : E' = E ∧ ws' = ws := by
    rcases hE with ⟨p1, p2, p3⟩ | ⟨p1, p2, p3⟩ <;> rcases h2 with ⟨q1, q2, q3⟩ | ⟨q1, q2, q3⟩
    · exact ⟨by omega, by rw [p3, q3]⟩
    · exact absurd p1 q1
    · exact absurd q1 p1
    · exact ⟨by omega, by rw [p3, q3]⟩
  obtain ⟨rfl, rfl⟩ := heq
  obtain ⟨a, c, rfl⟩ := h1.form
  exact ⟨a, c, rfl, h1, h3⟩

/-- What stands behind the loop. -/
structure Fin2 (w Z : World) (most Ao Ar : Nat) (f : Nat → Sd) : Prop where
  pr : ∀ i, i < 2 → Pr Z (f i).r (f i).b most (f i).L (f i).Ow (f i).Of
  bo : Z.heap[Ao]? = some (obO f)
  br : Z.heap[Ar]? = some (obR f)
  kp : Keeps (fun _ => False) w Z
theorem Fin2.same (h : Fin2 w X most Ao Ar f) (hk : Keeps (fun _ => False) X X') : Fin2 w X' most Ao Ar f :=
  ⟨fun i hi => (h.pr i hi).same hk, hk.old h.bo (fun f => f), hk.old h.br (fun f => f), h.kp.trans hk⟩
theorem Fin2.cells (h : Fin2 w X most Ao Ar f) {i : Nat} (hi : i < 2) : X.cell? ⟨Ao, i, none⟩ = some (.pointer (some ⟨(f i).r, 0, none⟩)) ∧ X.cell? ⟨Ar, i, none⟩ = some (.pointer (some ⟨(f i).b, 0, none⟩)) := by
  rw [cell_of_block h.bo, cell_of_block h.br]
  have : i = 0 ∨ i = 1 := by omega
  rcases this with rfl | rfl <;> exact ⟨rfl, rfl⟩
/-- Apart leaves it. -/
theorem Stt.fin (h : Stt w X most Ao Ar k mt n f tl T W) (h0 : 0 < w.heap.size) (hk : Keeps (TOn T) X X') : Fin2 w X' most Ao Ar f := by
  refine ⟨fun i hi => ?_, hk.old h.bo (fun ⟨x, m, e⟩ => ?_), hk.old h.br (fun ⟨x, m, e⟩ => ?_), h.kp.step hk (fun q hq e => by have := h.tw q (.inl e); omega)⟩
  · have hp := h.pr i hi
    exact ⟨hp.lg.kept hk (fun q hq => (h.out i q hi (.inl hq)).2.2.2.1), hp.rf.kept hk (fun q hq => (h.out i q hi (.inr hq)).2.2.2.1), hp.dj, hp.p0, hp.f0, hp.pl, hp.tz.keeps hk (fun e => by have := h.tw 0 (.inl e); omega)⟩
  · exact absurd (kind_ne (h.told.blk x _ m e).1 h.bo) (by decide)
  · exact absurd (kind_ne (h.told.blk x _ m e).1 h.br) (by decide)
end
end Go.Proofs.YtbgnlenhncbceaaDoor
