
/- The document's way to read a number, byte by byte: pure facts; loads and texts in a drawn region. No statement of the seat is proved here. -/
import Derived.Test.YtijommlodgpphaaDoorRdI
import Derived.Test.YtijommlodgpphaaDoorARoundC
namespace Go.Proofs.YtijommlodgpphaaDoor
open Go.RowKit Go.Shelf

/-- What the bytes so far have left. -/
def DN (D : List UInt8) (j N wt : Nat) : Prop := docN 10 0 1 D = ((docN (10 - j) N wt (D.drop j)).1, (docN (10 - j) N wt (D.drop j)).2 + j)
theorem DN.start (D : List UInt8) : DN D 0 0 1 := by simp [DN]
theorem DN.more {D : List UInt8} {j N wt : Nat} (h : DN D j N wt) (hj : j < D.length) (h10 : j < 10) (hc : ¬ (D[j]).toNat < 128) : DN D (j + 1) ((N + (D[j]).toNat % 128 * wt) % 18446744073709551616) (wt * 128 % 18446744073709551616) := by
  unfold DN at h ⊢
  rw [h, List.drop_eq_getElem_cons hj, show 10 - j = (10 - (j + 1)) + 1 by omega, docN, if_neg hc]
  simp only [Prod.mk.injEq, true_and]
  omega
theorem DN.last {D : List UInt8} {j N wt : Nat} (h : DN D j N wt) (hj : j < D.length) (h10 : j < 10) (hc : (D[j]).toNat < 128) : docN 10 0 1 D = ((N + (D[j]).toNat % 128 * wt) % 18446744073709551616, j + 1) := by
  unfold DN at h
  rw [h, List.drop_eq_getElem_cons hj, show 10 - j = (10 - (j + 1)) + 1 by omega, docN, if_pos hc]
  simp only [Prod.mk.injEq, true_and]
  omega
theorem DN.stop {D : List UInt8} {j N wt : Nat} (h : DN D j N wt) (hs : j = 10 ∨ D.length ≤ j) : docN 10 0 1 D = (N, j) := by
  unfold DN at h
  rw [h]
  rcases hs with rfl | hs
  · simp [docN]
  · rw [List.drop_eq_nil_of_le hs]
    cases hq : 10 - j with
    | zero => simp [docN]
    | succ q => simp [docN]
theorem wp_held_end {P : Program} {ops : Array Oper} {Q : Exit → Act → World → Prop} {id : Nat} {a : Act} {w : World} {S : World → Prop} (N : Nat) (hN : ops.size = N) (hm : P.follows .mixedOrders = true)
    (h : wpAnyH P .any ops (atEnd (Q .normal)) S N (Array.replicate N false) a w.drew) : (Code.region id ops true).wp P Q a w := by
  subst hN
  exact Code.wp_mono (fun e a w h => by cases e <;> first | exact h | exact h.elim) (wp_region_held hm h)
theorem held_skip {P : Program} {ops : Array Oper} {md : Region.Mode} {S : World → Prop} {i : Nat} {oi : Oper} {K : Act → World → Prop} {fuel : Nat} {listed : Array Bool} {a : Act} {w : World} (d : Nat) (hi : ops[i]? = some oi) (hdst : oi.dst = some d)
    (hs : Region.noSelect ops = true) (hf : Region.free md ops listed i = true) (hr : (Region.ready md ops listed).contains i = true) (hw : Region.wanted oi (yielded ops a.tmps) = false) (hS : S w)
    (h : wpAnyH P md ops (atEnd K) S fuel (listed.setIfInBounds i true) (a.put (some d) undef) w) : wpAnyH P md ops (atEnd K) S (fuel + 1) listed a w :=
  wpAnyH_take hi hs hf hr (fun _ _ _ h => h.elim) (.inr ⟨hw, rfl⟩) hS (by rw [hdst]; exact h)
theorem run_load_op {P : Program} {o : Oper} {a : Act} {w : World} {x : Operand} {ty : TypeId} (ho : o.op = .load ty x) (g : Nat) (hx : a.eval x = .pointer (some ⟨g, 0, none⟩)) (t : TypeId) (cs : Array Value) (fr : Nat × Nat) (d : TypeDesc) (hg : w.heap[g]? = some (.cells cs t fr))
    (hu : P.underlying ty = some d) (hd : (match d with | .struct _ | .array _ _ => true | _ => false) = true) (hi : (P.info? ty).map (·.size) = some cs.size) : (execOp a.eval o).run P w = .ok (.value (.agg cs)) w := by
  unfold execOp
  simp only [ho, hx, Instr.loadAt, Instr.sureAddr, Sem.run_bind, Sem.run_pure, Result.andThen_ok, run_loadVar_row w g t ty cs fr d hg hu hd hi]
theorem run_convert_op {P : Program} {o : Oper} {a : Act} {w : World} {x : Operand} {s t : TypeId} {v u : Value} (ho : o.op = .convert s t x) (hx : a.eval x = v) (hr : (convert s t v).run P w = .ok u w) : (execOp a.eval o).run P w = .ok (.value u) w := by
  unfold execOp
  simp only [ho, hx, hr, Sem.run_bind, Sem.run_pure, Result.andThen_ok]
/-- The text of the first bytes of a slice. -/
theorem take_string {w : World} {g off : Nat} {l : List UInt8} (n cap : Nat) (hn : n ≤ l.length) (hc : ∀ k (hk : k < l.length), w.cell? ⟨g, off + k, none⟩ = some (.int .u8 (l[k]).toNat)) : (convert 22 9 (.slice (some ⟨g, off, none⟩) n cap)).run Tryd.prog w = .ok (.string ⟨(l.take n).toArray⟩) w := by
  have hl : (l.take n).length = n := by simp [Nat.min_eq_left hn]
  have := run_convert_bytes_back (P := Tryd.prog) w 22 9 5 ⟨g, off, none⟩ cap (l.take n) Tryd.underlying22 Tryd.underlying5 Tryd.underlying9 (fun j hj => by
    rw [addr_add, hc j (by simp at hj; omega)]
    simp)
  rw [hl] at this
  exact this
theorem wrapU (k : Nat) : IntKind.u64.wrap (k : Int) = ((k % 18446744073709551616 : Nat) : Int) := by simp [IntKind.wrap, IntKind.signed, IntKind.bits]
theorem docI_wf (c : UInt8) (t : List UInt8) : (docI c t).1.wf := by
  have hx : ∀ (b : Bool) (x : UInt8), (0 : Int) ≤ ((if b then x.toNat else 0 : Nat) : Int) ∧ ((if b then x.toNat else 0 : Nat) : Int) < 256 := fun b x => by
    have := x.toNat_lt
    cases b <;> simp <;> omega
  have hn : ∀ (f acc wt : Nat) (l : List UInt8), acc < 18446744073709551616 → (docN f acc wt l).1 < 18446744073709551616 := by
    intro f
    induction f with
    | zero => intro acc wt l h; simpa [docN] using h
    | succ f ih =>
      intro acc wt l h
      cases l with
      | nil => simpa [docN] using h
      | cons x l =>
        rw [docN]
        split
        · exact Nat.mod_lt _ (by decide)
        · exact ih _ _ _ (Nat.mod_lt _ (by decide))
  have h0 := c.toNat_lt
  have h1 := hn 10 0 1 (t.drop (regsN c.toNat)) (by decide)
  have g0 := ((t[0]?).getD 0).toNat_lt
  have g1 := ((t[1]?).getD 0).toNat_lt
  have g2 := ((t[2]?).getD 0).toNat_lt
  unfold docI I5.wf
  dsimp only
  refine ⟨?_, ?_, ?_, ?_, ?_⟩
  · omega
  · split <;> omega
  · split <;> omega
  · split <;> omega
  · split <;> omega
end Go.Proofs.YtijommlodgpphaaDoor
