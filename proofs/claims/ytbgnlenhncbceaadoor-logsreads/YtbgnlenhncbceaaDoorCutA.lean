
/-
  Cut on a read log, and what is added behind it. No statement of the seat is proved here.
-/
import Derived.Test.YtbgnlenhncbceaaDoorWksA
namespace Go.Proofs.YtbgnlenhncbceaaDoor
open Go.RowKit Go.Shelf

set_option maxRecDepth 100000 in
set_option maxHeartbeats 400000 in
theorem reads_cut (r most : Nat) (es : List (Int × Int)) (v : Value) (m : Nat) (w : World) (h : ReadAt w r most es v) (hm : m ≤ es.length) :
    Calls Tryd.prog 31 #[.pointer (some ⟨r, 0, none⟩), .int .i64 m] w fun e w' => e = .returned (.int .i64 0) ∧ ∃ a c, v = .slice a es.length c ∧ ReadAt w' r most (es.take m) (.slice a m m) ∧ Keeps (fun k => k = r) w w' := by
  have ht := reads_there r w h.c0
  have c2 := h.c2
  have hes : es.length ≤ 1048576 := Nat.le_trans h.fit h.most20
  have hn := h.ner
  obtain ⟨a, c, hv, hc1, hc2⟩ := h.ents.form
  have hsl := run_shut w a es.length c m (by omega)
  have f2 := frozen_of_block h.box 2
  have hcut := h.ents.cut (m := m) (c := m) hm a c hv ⟨Nat.le_refl _, by omega⟩
  rw [entV_take] at hcut
  have hlen : (es.take m).length = m := by rw [List.length_take]; omega
  have k2 : Keeps (fun k => k = r) w (w.setCell ⟨r, 2, none⟩ (.slice a m m)) := (Keeps.refl (fun k => k = r) w).setCell (p := ⟨r, 2, none⟩) (.inr rfl) _
  have hob : (Value.slice a m m).ownBlock = v.ownBlock := by rw [hv]; cases a <;> rfl
  have hend : Hid (ReadAt (w.setCell ⟨r, 2, none⟩ (.slice a m m)) r most (es.take m) (.slice a m m) ∧ Keeps (fun k => k = r) w (w.setCell ⟨r, 2, none⟩ (.slice a m m))) :=
    ⟨⟨block_set h.box 2 _, by rw [hlen]; exact hcut.kept k2 (fun q hq e => hn (by rw [← hob, hq, e])), by have := h.fit; omega, h.most20⟩, k2⟩
  have HV : Hid (v = .slice a es.length c) := hv
  rw [hv] at c2
  have hml : (m : Int) ≤ (es.length : Int) := by omega
  have hm0 : (0 : Int) ≤ (m : Int) := by omega
  clear h hcut k2 hv hob hn hlen
  go_enter Tryd.func31, Tryd.ntmps31
  go_wp2_with (first | (go_at_call 41; refine ht.mono ?_; rintro e w' ⟨rfl, hw'⟩; replace hw' := hw'.symm; subst hw'))
  go_ret
  exact ⟨rfl, a, c, HV.out, hend.out⟩

theorem ReadAt.grown {w w' : World} {r most : Nat} {es : List (Int × Int)} {v : Value} (h : ReadAt w r most es v) {row : Option Nat} (hg : w.grownBy w' row) (hr : ∀ k, row = some k → ∃ o : Obj, w.heap[k]? = some o ∧ o.isCells = false) : ReadAt w' r most es v := by
  have hno : ∀ k c t fr, w.heap[k]? = some (.cells c t fr) → ¬ row = some k := fun k c t fr hk e => by
    obtain ⟨o, h1, h2⟩ := hr k e
    rw [hk] at h1
    cases h1
    cases h2
  refine h.kept (keeps_grown hg) (hno _ _ _ _ h.box) (fun g hg' => ?_)
  obtain ⟨c, hc⟩ := h.ents.kind hg'
  exact hno _ _ _ _ hc

/-- A read log that was cut to nothing since a world, and what was added to it since: in new memory. -/
structure CutAt (X W : World) (r : Nat) (es : List (Int × Int)) (v : Value) (O : Nat → Prop) : Prop where
  at' : ReadAt W r 1000000 es v
  kp : Keeps (fun k => k = r) X W
  own : (∃ a, v = .slice a 0 0 ∧ ∀ g, v.ownBlock = some g → O g) ∨ ∀ g, v.ownBlock = some g → X.heap.size ≤ g
theorem CutAt.like {X W W' : World} {r : Nat} {es : List (Int × Int)} {v : Value} {O : Nat → Prop} (h : CutAt X W r es v O) (l : Like W' W) : CutAt X W' r es v O := ⟨h.at'.like l, l.keeps h.kp, h.own⟩
theorem CutAt.add {X W : World} {r : Nat} {es : List (Int × Int)} {v : Value} {O : Nat → Prop} (h : CutAt X W r es v O) (hl : es.length < 1000000) (x y : Int) (W0 : World) (l : Like W0 W) :
    Calls Tryd.prog 28 #[.pointer (some ⟨r, 0, none⟩), .int .u64 x, .int .u64 y] W0 fun e w4 => e = .returned (.int .i64 0) ∧ ∃ v', CutAt X w4 r (es ++ [(x, y)]) v' O := by
  have h0 := h.like l
  refine (reads_add r 1000000 es v x y W0 h0.at' hl).mono ?_
  rintro e w4 ⟨rfl, v', h1, h2⟩
  have hs := h0.kp.size
  refine ⟨rfl, v', h1, ?_, .inr ?_⟩
  · rcases h2 with ⟨g, q1, q2, q3⟩ | ⟨g, c0, q1, q2, q3, q4, q5⟩
    · exact h0.kp.trans q3
    · have hg : X.heap.size ≤ g := by
        rcases h0.own with ⟨a, e, _⟩ | e
        · rw [e] at q1
          injection q1 with _ q6 q7
          omega
        · exact e g (by rw [q1]; rfl)
      exact h0.kp.step q5 (fun k hk e => by rcases e with e | e; exact e; omega)
  · rcases h2 with ⟨g, q1, q2, q3⟩ | ⟨g, c0, q1, q2, q3, q4, q5⟩
    · intro g' hg'
      rw [q1] at hg'
      injection hg' with hg'
      omega
    · intro g' hg'
      rw [q3] at hg'
      simp [Value.ownBlock] at hg'
      subst hg'
      rcases h0.own with ⟨a, e, _⟩ | e
      · rw [e] at q1
        injection q1 with _ q6 q7
        omega
      · exact e g (by rw [q1]; rfl)
theorem CutAt.own' {X W : World} {r : Nat} {es : List (Int × Int)} {v : Value} {O : Nat → Prop} (h : CutAt X W r es v O) (hr : O r) : RLogAt W r 1000000 es (fun k => k = r ∨ v.ownBlock = some k) ∧ (∀ k, (k = r ∨ v.ownBlock = some k) → O k ∨ X.heap.size ≤ k) ∧ Keeps O X W := by
  refine ⟨⟨v, h.at', fun _ => Iff.rfl⟩, ?_, h.kp.mono (fun k _ e => by rw [e]; exact hr)⟩
  rintro k (rfl | e)
  · exact .inl hr
  · rcases h.own with ⟨a, _, q⟩ | q
    · exact .inl (q k e)
    · exact .inr (q k e)

section
variable {w X X' : World} {B : List (Nat × Obj)} {r q f : Nat} {er L M : List (Int × Int)} {Or Ow Of : Nat → Prop}
/-- A row of entries is watched that is nobody's. -/
theorem Wk.rowed (h : Wk w X B r er q L f M Or Ow Of) {es : List (Int × Int)} {vo : Value} (hrow : Row X 72 2 vo es.length (entV es)) (hnew : ∀ g, vo.ownBlock = some g → w.heap.size ≤ g ∧ ¬ Or g ∧ ¬ Ow g ∧ ¬ Of g) :
    ∃ B', Wk w X B' r er q L f M Or Ow Of ∧ (∀ e, e ∈ B → e ∈ B') ∧ Hid (∀ Y : World, (∀ b o, (b, o) ∈ B' → Y.heap[b]? = some o) → Row Y 72 2 vo es.length (entV es)) := by
  rcases hrow.2 with ⟨q1, q2⟩ | ⟨g, cap, cur, q1, q2, q3⟩
  · exact ⟨B, h, fun e he => he, fun Y _ => ⟨hrow.1, .inl ⟨q1, q2⟩⟩⟩
  · have hg := hnew g (by rw [q1]; rfl)
    exact ⟨_, h.watch q2 rfl hg.1 hg.2, fun e he => List.mem_cons_of_mem _ he, fun Y hY => ⟨hrow.1, .inr ⟨g, cap, cur, q1, hY _ _ (List.mem_cons_self ..), q3⟩⟩⟩
/-- A block is turned that is nobody's. -/
theorem Wk.far (h : Wk w X B r er q L f M Or Ow Of) {n : Nat} (hn : w.heap.size ≤ n) (ho : ¬ Or n ∧ ¬ Ow n ∧ ¬ Of n) (hb : ∀ b o, (b, o) ∈ B → b ≠ n) (k : Keeps (fun k => k = n) X X') : Wk w X' B r er q L f M Or Ow Of :=
  ⟨fun b o hb' => k.old (h.bx b o hb') (hb b o hb'), h.bc, h.bn, h.rl.kept k (fun i hi e => ho.1 (e ▸ hi)), h.lg.kept k (fun i hi e => ho.2.1 (e ▸ hi)), h.rf.kept k (fun i hi e => ho.2.2 (e ▸ hi)), h.nr, h.nw, h.nf, h.bo, h.rw', h.rf', h.wf', h.kp.step k (fun i hi e => by omega)⟩
end
end Go.Proofs.YtbgnlenhncbceaaDoor
