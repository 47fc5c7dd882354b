/-
  No statement of the seat is proved here. (Several texts in one: RkV, RkV2, RkV3.)
-/
import Derived.Test.YtalopkllldnipaaRkU
import Derived.Test.YtalopkllldnipaaARoundD

/- What a turn keeps to, and what unite's closure stands on (layer 24). No statement of the seat is proved here. -/
namespace Go.Proofs.Ytalopkllldnipaa
open Go.RowKit

theorem wp_held_end {P : Program} {ops : Array Oper} {Q : Exit → Act → World → Prop} {id : Nat} {a : Act} {w : World} {S : World → Prop} (N : Nat) (hN : ops.size = N) (hm : P.follows .mixedOrders = true)
    (h : wpAnyH P .any ops (atEnd (Q .normal)) S N (Array.replicate N false) a w.drew) : (Code.region id ops true).wp P Q a w := by
  subst hN
  exact Code.wp_mono (fun e a w h => by cases e <;> first | exact h | exact h.elim) (wp_region_held hm h)
theorem hmxp : Try.prog.follows .mixedOrders = true := by kernel_rfl
/-- A function that has a body is entered. -/
noncomputable def entB (f : Nat) : Bool := match Try.prog.funcs[f]? with
  | some fn => !(fn.name == "runtime.NumGoroutine") && fn.body.isSome
  | none => false
theorem enters {f : Nat} (h : entB f = true) (args : Array Value) (w : World) : (callFunc f args).run Try.prog w = .ok (.enter f args) w := by
  unfold entB at h
  cases hf : Try.prog.funcs[f]? with
  | none => rw [hf] at h; simp at h
  | some fn =>
    rw [hf] at h
    simp only [Bool.and_eq_true, Bool.not_eq_true'] at h
    obtain ⟨h1, h2⟩ := h
    have h3 : ¬ fn.body = none := fun e => by rw [e] at h2; simp at h2
    have h4 : ¬ fn.name = "runtime.NumGoroutine" := by simpa using h1
    simp [callFunc, hf, h4, h3]
theorem uni_none (T : Wd → (Int × Int) × Wd) (k : Nat) (b : Option Tr) : uni T k none b = bnd T (fun n => rtn (b.map (Tr.res n), n)) (none, 0) := by
  cases k <;> rfl
theorem uni_some (T : Wd → (Int × Int) × Wd) (k : Nat) (a : Tr) : uni T k (some a) none = bnd T (fun n => rtn (some (a.res n), n)) (none, 0) := by
  cases k <;> rfl
/-- Two trees put together, the first one being the root. -/
def uniS (T : Wd → (Int × Int) × Wd) (k : Nat) (A B : Tr) : Wd → ((Option Tr × Int) × Int) × Wd :=
  bnd (braF (oat A.c 2)) (fun l => bnd (treF (oat A.c 3)) (fun r => bnd (uni T k r (some B)) (fun p => bnd (binF (A.res p.2) l (toT p.1, rkT p.1)) (fun t => rtn (some t, p.2)) (none, 0)) (none, 0)) (none, 0)) (none, 0)
theorem uni_two (T : Wd → (Int × Int) × Wd) (k : Nat) (a b : Tr) : uni T (k + 1) (some a) (some b) = uniS T k (if befE b.ent a.ent then b else a) (if befE b.ent a.ent then a else b) := by
  show bnd _ _ _ = _
  unfold uniS
  rfl
theorem res_c (n : Int) (t : Tr) : (t.res n).c = t.c := by unfold Tr.res; split <;> rfl
theorem res_f (n : Int) (t : Tr) : (t.res n).f = t.f := by unfold Tr.res; split <;> rfl
theorem res_no {n : Int} {t : Tr} (h : t.f = false) : t.res n = t := by unfold Tr.res; rw [h]; rfl
theorem res_res (n : Int) (t : Tr) : (t.res n).res n = t.res n := by unfold Tr.res; split <;> simp_all

theorem bnd_step {α β : Type} {G0 : Wd → (α × Int) × Wd} {G : α → Wd → (β × Int) × Wd} {d y : β} {s s2 : Wd} {e : Int} (h : bnd G0 G d s = ((y, e), s2)) :
    ∃ x f s1, G0 s = ((x, f), s1) ∧ (f = 0 → G x s1 = ((y, e), s2)) ∧ (f ≠ 0 → e = f ∧ s2 = s1 ∧ y = d) := by
  obtain ⟨⟨⟨x, f⟩, s1⟩, hF⟩ : ∃ r, G0 s = r := ⟨_, rfl⟩
  refine ⟨x, f, s1, hF, fun hf => ?_, fun hf => ?_⟩
  · subst hf
    rw [bnd_ok hF] at h
    exact h
  · rw [bnd_no hF hf] at h
    simp only [Prod.mk.injEq] at h
    exact ⟨h.1.2.symm, h.2.symm, h.1.1.symm⟩
theorem rtn_eq {α : Type} {x y : α} {s s1 : Wd} {e : Int} (h : rtn x s = ((y, e), s1)) : y = x ∧ e = 0 ∧ s1 = s := by
  unfold rtn at h
  simp only [Prod.mk.injEq] at h
  exact ⟨h.1.1.symm, h.1.2.symm, h.2.symm⟩
theorem treF_f {x e : Int} {t : Tr} {s s1 : Wd} (h : treF x s = ((some t, e), s1)) : t.f = false := by
  unfold treF at h
  split at h
  · have := (rtn_eq h).1; cases this
  · obtain ⟨l, f, s2, _, h2, h3⟩ := bnd_step h
    by_cases hf : f = 0
    · have := (rtn_eq (h2 hf)).1
      injection this with this
      rw [this]
    · have := (h3 hf).2.2; cases this
theorem braF_isW {x e : Int} {l : Int × Int} {s s1 : Wd} (h : braF x s = ((l, e), s1)) (hx : isW x) : isW l.1 := by
  unfold braF at h
  split at h
  · rw [(rtn_eq h).1]; exact zero_isW
  · obtain ⟨r, f, s2, _, h2, h3⟩ := bnd_step h
    by_cases hf : f = 0
    · rw [(rtn_eq (h2 hf)).1]; exact hx
    · rw [(h3 hf).2.2]; exact zero_isW
theorem toT_isW (t : Option Tr) : isW (toT t) := by
  cases t with
  | none => exact zero_isW
  | some t => exact uw_isW _
theorem binF_f {t t' : Tr} {l r : Int × Int} {s s1 : Wd} {e : Int} (h : binF t l r s = ((t', e), s1)) : t'.f = t.f := by
  obtain ⟨_, f, s2, _, h2, h3⟩ := bnd_step h
  by_cases hf : f = 0
  · rw [(rtn_eq (h2 hf)).1]
  · rw [(h3 hf).2.2]

/-- What is done at the turn: T; Fr is what it stands on, F are the blocks of what lay nowhere yet. -/
structure TurnAt (tf : Nat) (tcap : Array Value) (T : Wd → (Int × Int) × Wd) (Fr : World → Prop) (F : Nat → Prop) (b g c : Nat) : Prop where
  ent : ∀ (args : Array Value) (X : World), (callFunc tf args).run Try.prog X = .ok (.enter tf args) X
  call : ∀ (X : World) (s s1 : Wd) (n e : Int), T s = ((n, e), s1) → WdAt X b g c s → Fr X → Calls Try.prog tf tcap X fun r X' => r = .returned (.int .i64 e) ∧ WdAt X' b g c s1 ∧ Keeps (fun i => two b g i ∨ F i) X X' ∧ (e = 0 → ∀ q t, TrAt X q t → (t.f = true ↔ F q) → ¬ two b g q → TrAt X' q (t.res n))
  keep : ∀ {X X' : World}, Fr X → Keeps (two b g) X X' → Fr X'
  off : ∀ i, F i → ¬ two b g i
  lt : ∀ {X : World} {i : Nat}, Fr X → F i → i < X.heap.size

/-- The boxes of what unite's closure has. -/
structure JoAt (w : World) (b g x7 x4 x10 : Nat) (tv : Value) (F : Nat → Prop) : Prop where
  c7 : w.cell? ⟨x7, 0, none⟩ = some tv
  c4 : w.cell? ⟨x4, 0, none⟩ = some (.iface 24 (.pointer (some ⟨b, 0, none⟩)))
  c10 : w.cell? ⟨x10, 0, none⟩ = some (.func (.func 77) #[] #[.pointer (some ⟨x7, 0, none⟩), .pointer (some ⟨x4, 0, none⟩), .pointer (some ⟨x10, 0, none⟩)])
  off : ∀ x, x = x7 ∨ x = x4 ∨ x = x10 → ¬ two b g x ∧ ¬ F x
theorem JoAt.kept {S : Nat → Prop} {w w' : World} {b g x7 x4 x10 : Nat} {tv : Value} {F : Nat → Prop} (h : JoAt w b g x7 x4 x10 tv F) (k : Keeps S w w') (hS : ∀ x, x = x7 ∨ x = x4 ∨ x = x10 → ¬ S x) : JoAt w' b g x7 x4 x10 tv F :=
  ⟨(World.cell?_of_block (k.block x7 (World.block_lt_of_cell? _ _ h.c7) (hS _ (.inl rfl)))).trans h.c7, (World.cell?_of_block (k.block x4 (World.block_lt_of_cell? _ _ h.c4) (hS _ (.inr (.inl rfl))))).trans h.c4, (World.cell?_of_block (k.block x10 (World.block_lt_of_cell? _ _ h.c10) (hS _ (.inr (.inr rfl))))).trans h.c10, h.off⟩
theorem JoAt.ne {w : World} {b g x7 x4 x10 tf q : Nat} {tcap : Array Value} {F : Nat → Prop} {t : Tr} (h : JoAt w b g x7 x4 x10 (.func (.func tf) #[] tcap) F) (ht : TrAt w q t) : ∀ x, x = x7 ∨ x = x4 ∨ x = x10 → x ≠ q := by
  have c0 := ht.cells.1
  rintro x (rfl | rfl | rfl) rfl
  · rw [h.c7] at c0; simp at c0
  · rw [h.c4] at c0; simp at c0
  · rw [h.c10] at c0; simp at c0
/-- A tree, or none. -/
def PtF (b g : Nat) (F : Nat → Prop) (w : World) (po : Option Addr) (t : Option Tr) : Prop := match t with
  | none => po = none
  | some t => ∃ q, po = some ⟨q, 0, none⟩ ∧ TrAt w q t ∧ (t.f = true ↔ F q) ∧ ¬ two b g q
theorem PtF.to {b g : Nat} {F : Nat → Prop} {w : World} {po : Option Addr} {t : Option Tr} (h : PtF b g F w po t) : PtAt w 0 po t := by
  cases t with
  | none => exact h
  | some t => obtain ⟨q, h1, h2, _⟩ := h; exact ⟨q, Nat.zero_le _, h1, h2⟩
theorem PtF.like {b g : Nat} {F : Nat → Prop} {w X : World} {po : Option Addr} {t : Option Tr} (h : PtF b g F w po t) (e : X.heap = w.heap) : PtF b g F X po t := by
  cases t with
  | none => exact h
  | some t => obtain ⟨q, h1, h2, h3, h4⟩ := h; exact ⟨q, h1, ⟨by unfold Blk; rw [e]; exact h2.blk, h2.len, h2.wat, h2.wc⟩, h3, h4⟩
theorem PtF.kept {b g : Nat} {F S : Nat → Prop} {w w' : World} {po : Option Addr} {t : Option Tr} (h : PtF b g F w po t) (k : Keeps S w w') (hS : ∀ q, po = some ⟨q, 0, none⟩ → ¬ S q) : PtF b g F w' po t := by
  cases t with
  | none => exact h
  | some t => obtain ⟨q, h1, h2, h3, h4⟩ := h; exact ⟨q, h1, h2.kept k (hS q h1), h3, h4⟩
/-- What unite's closure answers. -/
def JPost (b g c : Nat) (F : Nat → Prop) (pa pb : Option Addr) (w : World) (t : Option Tr) (n e : Int) (s1 : Wd) : Ending → World → Prop := fun r w' =>
  ∃ po, r = .returned (.tuple #[.pointer po, .int .i64 e]) ∧ WdAt w' b g c s1 ∧ Keeps (fun i => two b g i ∨ F i ∨ pa = some ⟨i, 0, none⟩ ∨ pb = some ⟨i, 0, none⟩) w w' ∧
    (e = 0 → PtF b g F w' po t ∧ ∀ q u, TrAt w q u → (u.f = true ↔ F q) → ¬ two b g q → pa ≠ some ⟨q, 0, none⟩ → pb ≠ some ⟨q, 0, none⟩ → TrAt w' q (u.res n))
/-- With so many nodes to the right it keeps to the words. -/
def Joins (tf : Nat) (tcap : Array Value) (T : Wd → (Int × Int) × Wd) (Fr : World → Prop) (F : Nat → Prop) (b g c x7 x4 x10 k : Nat) : Prop :=
  ∀ (ta tb : Option Tr) (pa pb : Option Addr) (s s1 : Wd) (w : World) (t : Option Tr) (n e : Int), uni T k ta tb s = (((t, n), e), s1) → WdAt w b g c s → JoAt w b g x7 x4 x10 (.func (.func tf) #[] tcap) F → Fr w → PtF b g F w pa ta → PtF b g F w pb tb → (∀ q, pa = some ⟨q, 0, none⟩ → pb ≠ some ⟨q, 0, none⟩) →
    Calls Try.prog 77 #[.pointer pa, .pointer pb, .int .i64 k, .pointer (some ⟨x7, 0, none⟩), .pointer (some ⟨x4, 0, none⟩), .pointer (some ⟨x10, 0, none⟩)] w (JPost b g c F pa pb w t n e s1)

set_option maxHeartbeats 2000000 in
theorem join_none {tf : Nat} {tcap : Array Value} {T : Wd → (Int × Int) × Wd} {Fr : World → Prop} {F : Nat → Prop} {b g c x7 x4 x10 : Nat} (E : TurnAt tf tcap T Fr F b g c) (k : Nat) (tb : Option Tr) (pb : Option Addr) (s s1 : Wd) (w : World) (t : Option Tr) (n e : Int) (hu : uni T k none tb s = (((t, n), e), s1)) (h : WdAt w b g c s) (hj : JoAt w b g x7 x4 x10 (.func (.func tf) #[] tcap) F) (hf : Fr w) (hb : PtF b g F w pb tb) :
    Calls Try.prog 77 #[.pointer none, .pointer pb, .int .i64 k, .pointer (some ⟨x7, 0, none⟩), .pointer (some ⟨x4, 0, none⟩), .pointer (some ⟨x10, 0, none⟩)] w (JPost b g c F none pb w t n e s1) := by
  have hent := E.ent
  rw [uni_none] at hu
  have HT : Hid (∃ n', T s = ((n', e), s1) ∧ (e = 0 → n' = n ∧ t = tb.map (Tr.res n))) := by
    rcases bnd_cases hu with ⟨m, s2, h1, h2⟩ | ⟨m, h1, h2, h3⟩
    · unfold rtn at h2
      simp only [Prod.mk.injEq] at h2
      obtain ⟨⟨⟨rfl, rfl⟩, rfl⟩, rfl⟩ := h2
      exact hid ⟨_, h1, fun _ => ⟨rfl, rfl⟩⟩
    · exact hid ⟨m, h3, fun q => absurd q h1⟩
  obtain ⟨n', HT⟩ : ∃ n', Hid (T s = ((n', e), s1) ∧ (e = 0 → n' = n ∧ t = tb.map (Tr.res n))) := by obtain ⟨a, b⟩ := HT.out; exact ⟨a, hid b⟩
  have HC := hid (E.call w s s1 n' e HT.out.1 h hf)
  have HB := hid hb
  have c7 := hj.c7
  clear h hf hb hj hu E
  go_enter Try.func77, Try.ntmps77
  go_wp2_with fail
  refine HC.out.mono ?_
  rintro r w1 ⟨rfl, h1, k1, hh⟩
  have HF := hid (And.intro h1 (And.intro k1 hh))
  clear HC h1 k1 hh
  go_wp2_with fail
  go_ret2
  refine ⟨_, rfl, HF.out.1, HF.out.2.1.mono (fun i _ q => by rcases q with q | q; exact .inl q; exact .inr (.inl q)), fun he => ?_⟩
  obtain ⟨rfl, rfl⟩ := HT.out.2 he
  have hh := HF.out.2.2 he
  refine ⟨?_, fun q u hu hq h2 _ _ => hh q u hu hq h2⟩
  cases tb with
  | none => exact HB.out
  | some B =>
    obtain ⟨q, h1, h2, h3, h4⟩ := HB.out
    exact ⟨q, h1, hh q B h2 h3 h4, by rw [res_f]; exact h3, h4⟩
set_option maxHeartbeats 2000000 in
theorem join_some {tf : Nat} {tcap : Array Value} {T : Wd → (Int × Int) × Wd} {Fr : World → Prop} {F : Nat → Prop} {b g c x7 x4 x10 : Nat} (E : TurnAt tf tcap T Fr F b g c) (k qa : Nat) (A : Tr) (s s1 : Wd) (w : World) (t : Option Tr) (n e : Int) (hu : uni T k (some A) none s = (((t, n), e), s1)) (h : WdAt w b g c s) (hj : JoAt w b g x7 x4 x10 (.func (.func tf) #[] tcap) F) (hf : Fr w) (hA : TrAt w qa A) (hAf : A.f = true ↔ F qa) (hA2 : ¬ two b g qa) :
    Calls Try.prog 77 #[.pointer (some ⟨qa, 0, none⟩), .pointer none, .int .i64 k, .pointer (some ⟨x7, 0, none⟩), .pointer (some ⟨x4, 0, none⟩), .pointer (some ⟨x10, 0, none⟩)] w (JPost b g c F (some ⟨qa, 0, none⟩) none w t n e s1) := by
  have hent := E.ent
  rw [uni_some] at hu
  have HT : Hid (∃ n', T s = ((n', e), s1) ∧ (e = 0 → n' = n ∧ t = some (A.res n))) := by
    rcases bnd_cases hu with ⟨m, s2, h1, h2⟩ | ⟨m, h1, h2, h3⟩
    · unfold rtn at h2
      simp only [Prod.mk.injEq] at h2
      obtain ⟨⟨⟨rfl, rfl⟩, rfl⟩, rfl⟩ := h2
      exact hid ⟨_, h1, fun _ => ⟨rfl, rfl⟩⟩
    · exact hid ⟨m, h3, fun q => absurd q h1⟩
  obtain ⟨n', HT⟩ : ∃ n', Hid (T s = ((n', e), s1) ∧ (e = 0 → n' = n ∧ t = some (A.res n))) := by obtain ⟨a, b⟩ := HT.out; exact ⟨a, hid b⟩
  have HC := hid (E.call w s s1 n' e HT.out.1 h hf)
  have HB := hid (And.intro hA (And.intro hAf hA2))
  have c7 := hj.c7
  clear h hf hA hAf hA2 hj hu E
  go_enter Try.func77, Try.ntmps77
  go_wp2_with fail
  refine HC.out.mono ?_
  rintro r w1 ⟨rfl, h1, k1, hh⟩
  have HF := hid (And.intro h1 (And.intro k1 hh))
  clear HC h1 k1 hh
  go_wp2_with fail
  go_ret2
  refine ⟨_, rfl, HF.out.1, HF.out.2.1.mono (fun i _ q => by rcases q with q | q; exact .inl q; exact .inr (.inl q)), fun he => ?_⟩
  obtain ⟨rfl, rfl⟩ := HT.out.2 he
  have hh := HF.out.2.2 he
  exact ⟨⟨qa, rfl, hh qa A HB.out.1 HB.out.2.1 HB.out.2.2, by rw [res_f]; exact HB.out.2.1, HB.out.2.2⟩, fun q u hu hq h2 _ _ => hh q u hu hq h2⟩
end Go.Proofs.Ytalopkllldnipaa


/- The walk of unite's closure (layer 24). No statement of the seat is proved here. -/
namespace Go.Proofs.Ytalopkllldnipaa
open Go.RowKit

/-- What a region that asks for a branch comes to. -/
def Rbr (W0 : World) (b g c : Nat) (l : Int × Int) (e : Int) (s2 : Wd) (q : Nat) (y z : Value) (w' : World) : Prop := y = .agg #[.int .u64 l.1, .int .u64 l.2] ∧ z = .int .i64 e ∧ WdAt w' b g c s2 ∧ Keeps (two b g) W0 w' ∧ Blk w' q 139 #[.int .u64 0, .int .u64 0] ∧ W0.heap.size ≤ q
theorem brA {b g c : Nat} {s s2 : Wd} {x e : Int} {l : Int × Int} (heq : Hid (braF x s = ((l, e), s2))) {w0 : World} {S : World → Prop} (h : WdAt w0 b g c s) (hS : ∀ X, Keeps (two b g) w0 X → S X) :
    Calls Try.prog 79 #[.iface 24 (.pointer (some ⟨b, 0, none⟩)), .int .u64 x] (w0.alloc (.cells #[.int .u64 0, .int .u64 0] 139)) fun r w' => ∃ y z, r = .returned (.tuple #[y, z]) ∧ S w' ∧ Rbr w0 b g c l e s2 w0.heap.size y z w' := by
  have kn := keeps_new w0 (.cells #[.int .u64 0, .int .u64 0] 139)
  have hlb := h.ltb
  have hlg := h.ltg
  refine (branch_any heq (h.kept kn (fun f => f) (fun f => f))).mono ?_
  rintro r w' ⟨rfl, h1, k1⟩
  have k2 : Keeps (two b g) w0 w' := (kn.mono (fun _ _ f => f.elim)).trans k1
  exact ⟨_, _, rfl, hS _ k2, rfl, rfl, h1, k2, (blk_new w0 _ _).kept k1 (fun f => by rcases f with f | f <;> omega), Nat.le_refl _⟩
theorem brB {b g c : Nat} {s s2 : Wd} {x e : Int} {l : Int × Int} (heq : Hid (braF x s = ((l, e), s2))) {w0 : World} {S : World → Prop} (h : WdAt w0 b g c s) (hS : ∀ X, Keeps (two b g) w0 X → S X) :
    Calls Try.prog 79 #[.iface 24 (.pointer (some ⟨b, 0, none⟩)), .int .u64 x] w0 fun r w' => ∃ y z, r = .returned (.tuple #[y, z]) ∧ S w' ∧ Rbr w0 b g c l e s2 w'.heap.size y z (w'.alloc (.cells #[.int .u64 0, .int .u64 0] 139)) := by
  refine (branch_any heq h).mono ?_
  rintro r w' ⟨rfl, h1, k1⟩
  have kn := keeps_new w' (.cells #[.int .u64 0, .int .u64 0] 139)
  exact ⟨_, _, rfl, hS _ k1, rfl, rfl, h1.kept kn (fun f => f) (fun f => f), k1.trans (kn.mono (fun _ _ f => f.elim)), blk_new w' _ _, k1.size⟩
set_option maxHeartbeats 2000000 in
theorem join_zero {tf : Nat} {tcap : Array Value} {T : Wd → (Int × Int) × Wd} {F : Nat → Prop} {b g c x7 x4 x10 : Nat} (qa qb : Nat) (A B : Tr) (s s1 : Wd) (w : World) (t : Option Tr) (n e : Int) (hu : uni T 0 (some A) (some B) s = (((t, n), e), s1)) (h : WdAt w b g c s) (_hj : JoAt w b g x7 x4 x10 (.func (.func tf) #[] tcap) F) :
    Calls Try.prog 77 #[.pointer (some ⟨qa, 0, none⟩), .pointer (some ⟨qb, 0, none⟩), .int .i64 (0 : Nat), .pointer (some ⟨x7, 0, none⟩), .pointer (some ⟨x4, 0, none⟩), .pointer (some ⟨x10, 0, none⟩)] w (JPost b g c F (some ⟨qa, 0, none⟩) (some ⟨qb, 0, none⟩) w t n e s1) := by
  have hu : err (none, 0) 340 s = (((t, n), e), s1) := hu
  unfold err at hu
  simp only [Prod.mk.injEq] at hu
  obtain ⟨⟨⟨rfl, rfl⟩, rfl⟩, rfl⟩ := hu
  have HH := hid h
  clear h _hj
  go_enter Try.func77, Try.ntmps77
  go_wp2_with fail
  go_ret2
  exact ⟨_, rfl, HH.out, Keeps.refl _ _, fun q => absurd q (by decide)⟩
set_option maxHeartbeats 4000000 in
theorem join_in {tf : Nat} {tcap : Array Value} {T : Wd → (Int × Int) × Wd} {Fr : World → Prop} {F : Nat → Prop} {b g c x7 x4 x10 : Nat} (E : TurnAt tf tcap T Fr F b g c) (k : Nat) (hk : k < 1000) (IH : Joins tf tcap T Fr F b g c x7 x4 x10 k) (qa qb : Nat) (a bb : Tr) (s s1 : Wd) (w : World) (t : Option Tr) (n e : Int) (hu : uniS T k a bb s = (((t, n), e), s1)) (h : WdAt w b g c s) (hj : JoAt w b g x7 x4 x10 (.func (.func tf) #[] tcap) F) (hf : Fr w)
    (ha : TrAt w qa a) (haf : a.f = true ↔ F qa) (ha2 : ¬ two b g qa) (hb : TrAt w qb bb) (hbf : bb.f = true ↔ F qb) (hb2 : ¬ two b g qb) (hne : qa ≠ qb) (hbe : ¬ befE bb.ent a.ent) :
    Calls Try.prog 77 #[.pointer (some ⟨qa, 0, none⟩), .pointer (some ⟨qb, 0, none⟩), .int .i64 ((k + 1 : Nat) : Int), .pointer (some ⟨x7, 0, none⟩), .pointer (some ⟨x4, 0, none⟩), .pointer (some ⟨x10, 0, none⟩)] w (JPost b g c F (some ⟨qa, 0, none⟩) (some ⟨qb, 0, none⟩) w t n e s1) := by
  have hent := E.ent
  have hbd : decide (befE bb.ent a.ent) = false := by simp [hbe]
  have HA := hid (ahead_any hb ha)
  rw [hbd] at HA
  have HX : Hid (WdAt w b g c s ∧ JoAt w b g x7 x4 x10 (.func (.func tf) #[] tcap) F ∧ Fr w ∧ TrAt w qa a ∧ TrAt w qb bb) := hid ⟨h, hj, hf, ha, hb⟩
  have HLT : Hid (isW (oat a.c 2) ∧ qb < w.heap.size ∧ qa < w.heap.size) := hid ⟨ha.wc 2, hb.lt, ha.lt⟩
  have HLF : Hid (∀ i, F i → i < w.heap.size) := hid (fun i hi => E.lt hf hi)
  have HP : Hid ((a.f = true ↔ F qa) ∧ ¬ two b g qa ∧ (bb.f = true ↔ F qb) ∧ ¬ two b g qb ∧ qa ≠ qb) := hid ⟨haf, ha2, hbf, hb2, hne⟩
  obtain ⟨m, hm⟩ : ∃ m : Int, m = ((k + 1 : Nat) : Int) := ⟨_, rfl⟩
  have HM : Hid (m - 1 = (k : Int)) := hid (by omega)
  rw [← hm]
  have hm0 : (m == 0) = false := by simp; omega
  have hm1 : 0 < m := by omega
  have hm2 : m ≤ 1000 := by omega
  have HE := hid E
  have HIH := hid IH
  have HU := hid hu
  clear h hj hf ha haf ha2 hb hbf hb2 hne hbe hbd hm E IH hu
  go_enter Try.func77, Try.ntmps77
  go_wp2_with fail
  refine HA.out.mono ?_
  rintro r w0 ⟨rfl, k0⟩
  have HZ : Hid (WdAt w0 b g c s ∧ JoAt w0 b g x7 x4 x10 (.func (.func tf) #[] tcap) F ∧ Fr w0 ∧ TrAt w0 qa a ∧ TrAt w0 qb bb ∧ Keeps (fun _ => False) w w0) := by
    obtain ⟨h1, h2, h3, h4, h5⟩ := HX.out
    exact hid ⟨h1.kept k0 (fun f => f) (fun f => f), h2.kept k0 (fun _ _ f => f), HE.out.keep h3 (k0.mono (fun _ _ f => f.elim)), h4.kept k0 (fun f => f), h5.kept k0 (fun f => f), k0⟩
  clear HX HA k0
  go_wp2_with fail
  obtain ⟨l, e2, s2, hbr, hu2⟩ : ∃ l e2 s2, Hid (braF (oat a.c 2) s = ((l, e2), s2)) ∧ Hid ((e2 = 0 → bnd (treF (oat a.c 3)) (fun r => bnd (uni T k r (some bb)) (fun p => bnd (binF (a.res p.2) l (toT p.1, rkT p.1)) (fun t => rtn (some t, p.2)) (none, 0)) (none, 0)) (none, 0) s2 = (((t, n), e), s1)) ∧ (e2 ≠ 0 → e = e2 ∧ s1 = s2)) := by
    obtain ⟨l, f, s2, h1, h2, h3⟩ := bnd_step HU.out
    exact ⟨l, f, s2, hid h1, hid ⟨h2, fun hf => ⟨(h3 hf).1, (h3 hf).2.1⟩⟩⟩
  have hd0 : WdAt w0.drew b g c s := HZ.out.1.drewN 1
  have hSX : ∀ X : World, Keeps (two b g) w0.drew X → X.cell? ⟨x4, 0, none⟩ = some (.iface 24 (.pointer (some ⟨b, 0, none⟩))) ∧ X.cell? ⟨qa, 3, none⟩ = some (.int .u64 (oat a.c 2)) := fun X hX => by
    have k1 : Keeps (two b g) w0 X := ((Keeps.refl _ w0).drewN 1).trans hX
    exact ⟨(HZ.out.2.1.kept k1 (fun x hx => (HZ.out.2.1.off x hx).1)).c4, (HZ.out.2.2.2.1.kept k1 HP.out.2.1).cells.2.2.2.1⟩
  have hS0 : w0.drew.cell? ⟨x4, 0, none⟩ = some (.iface 24 (.pointer (some ⟨b, 0, none⟩))) ∧ w0.drew.cell? ⟨qa, 3, none⟩ = some (.int .u64 (oat a.c 2)) := hSX _ (Keeps.refl _ _)
  have hS1 : (w0.drew.alloc (.cells #[.int .u64 0, .int .u64 0] 139)).cell? ⟨x4, 0, none⟩ = some (.iface 24 (.pointer (some ⟨b, 0, none⟩))) ∧ (w0.drew.alloc (.cells #[.int .u64 0, .int .u64 0] 139)).cell? ⟨qa, 3, none⟩ = some (.int .u64 (oat a.c 2)) := hSX _ ((keeps_new _ _).mono (fun _ _ f => f.elim))
  have HSZ : Hid (∀ (qn : Nat) (Y : World), Keeps (two b g) w0.drew Y → w0.drew.heap.size ≤ qn → ((Y.setCell ⟨qn, 0, none⟩ (.int .u64 l.1)).setCell ⟨qn, 1, none⟩ (.int .u64 l.2)).cell? ⟨x4, 0, none⟩ = some (.iface 24 (.pointer (some ⟨b, 0, none⟩))) ∧ ((Y.setCell ⟨qn, 0, none⟩ (.int .u64 l.1)).setCell ⟨qn, 1, none⟩ (.int .u64 l.2)).cell? ⟨qa, 3, none⟩ = some (.int .u64 (oat a.c 2))) := hid (fun qn Y hY hq => by
    have k1 : Keeps (two b g) w0 Y := ((Keeps.refl _ w0).drewN 1).trans hY
    have k2 := keeps_set2 Y qn (.int .u64 l.1) (.int .u64 l.2)
    have hl4 := World.block_lt_of_cell? _ _ HZ.out.2.1.c4
    have hlA := HZ.out.2.2.2.1.lt
    have hq' : w0.heap.size ≤ qn := hq
    have k3 : Keeps (two b g) w0 ((Y.setCell ⟨qn, 0, none⟩ (.int .u64 l.1)).setCell ⟨qn, 1, none⟩ (.int .u64 l.2)) := k1.step k2 (fun i hi e => by omega)
    exact ⟨(HZ.out.2.1.kept k3 (fun x hx => (HZ.out.2.1.off x hx).1)).c4, (HZ.out.2.2.2.1.kept k3 HP.out.2.1).cells.2.2.2.1⟩)
  clear HU
  refine wp_held_end (S := fun W : World => W.cell? ⟨x4, 0, none⟩ = some (.iface 24 (.pointer (some ⟨b, 0, none⟩))) ∧ W.cell? ⟨qa, 3, none⟩ = some (.int .u64 (oat a.c 2))) 13 rfl hmxp ?_
  simp only [Array.replicate_succ, Array.replicate_zero, List.push_toArray, List.nil_append, List.cons_append]
  refine held_take (i := 0) (v := (.iface 24 (.pointer (some ⟨b, 0, none⟩)))) 36 rfl rfl (by kernel_rfl) (by kernel_rfl) (by kernel_rfl) rfl (fun w' hw' => by obtain ⟨r0, r1⟩ := hw'; go_simp) hS0 ?_
  simp only [Act.put, List.setIfInBounds_toArray, List.set_cons_zero, List.set_cons_succ]
  refine held_take (i := 1) (v := (.pointer (some ⟨qa, 0, none⟩))) 37 rfl rfl (by kernel_rfl) (by kernel_rfl) (by kernel_rfl) rfl (fun w' hw' => by obtain ⟨r0, r1⟩ := hw'; go_simp) hS0 ?_
  simp only [Act.put, List.setIfInBounds_toArray, List.set_cons_zero, List.set_cons_succ]
  refine held_take (i := 2) (v := (.pointer (some ⟨qa, 0, none⟩))) 38 rfl rfl (by kernel_rfl) (by kernel_rfl) (by kernel_rfl) rfl (fun w' hw' => by obtain ⟨r0, r1⟩ := hw'; go_simp) hS0 ?_
  simp only [Act.put, List.setIfInBounds_toArray, List.set_cons_zero, List.set_cons_succ]
  refine held_take (i := 3) (v := (.pointer (some ⟨qa, 1, none⟩))) 39 rfl rfl (by kernel_rfl) (by kernel_rfl) (by kernel_rfl) rfl (fun w' hw' => by obtain ⟨r0, r1⟩ := hw'; go_simp) hS0 ?_
  simp only [Act.put, List.setIfInBounds_toArray, List.set_cons_zero, List.set_cons_succ]
  refine held_take (i := 4) (v := (.pointer (some ⟨qa, 3, none⟩))) 40 rfl rfl (by kernel_rfl) (by kernel_rfl) (by kernel_rfl) rfl (fun w' hw' => by obtain ⟨r0, r1⟩ := hw'; go_simp) hS0 ?_
  simp only [Act.put, List.setIfInBounds_toArray, List.set_cons_zero, List.set_cons_succ]
  refine held_take (i := 5) (v := (.int .u64 (oat a.c 2))) 41 rfl rfl (by kernel_rfl) (by kernel_rfl) (by kernel_rfl) rfl (fun w' hw' => by obtain ⟨r0, r1⟩ := hw'; go_simp) hS0 ?_
  simp only [Act.put, List.setIfInBounds_toArray, List.set_cons_zero, List.set_cons_succ]
  refine held_call3_alloc (i := 6) (j := 10) (f := 79) (args := #[.iface 24 (.pointer (some ⟨b, 0, none⟩)), .int .u64 (oat a.c 2)]) (o := .cells #[.int .u64 0, .int .u64 0] 139) (Rbr w0.drew b g c l e2 s2) 42 11 35 43 44 7 8 9 (by kernel_rfl) (by kernel_rfl) (by kernel_rfl) rfl rfl rfl rfl rfl rfl rfl rfl rfl rfl (by decide) (by decide) (fun t => rfl) (fun t => rfl) (fun t => rfl) (fun t => rfl) (fun t => rfl) (by kernel_rfl) ⟨by kernel_rfl, by kernel_rfl⟩ ⟨by kernel_rfl, by kernel_rfl⟩ ⟨by kernel_rfl, by kernel_rfl⟩ ⟨by kernel_rfl, by kernel_rfl⟩ ⟨by kernel_rfl, by kernel_rfl⟩ ⟨by kernel_rfl, by kernel_rfl⟩ (fun w' hw' => by go_simp) (fun w' v hw' => by go_simp) (fun w' => by go_simp) (fun a' w' => by go_simp) (fun y z w' hw' => by go_simp) (fun y z w' hw' => by go_simp) (fun y z w' hw' => by go_simp) (fun y z p w' hw' => by go_simp) (fun y z p w' hw' => by go_simp) (fun y z p w' hw' => by go_simp) hS0 hS1 (brA hbr hd0 hSX) (brB hbr hd0 hSX) ?_
  rintro qn y z Y ⟨rfl, rfl, hR1, hR2, hR3, hR4⟩
  have hSY := hSX Y hR2
  have HR := hid (And.intro hR1 (And.intro hR2 (And.intro hR3 hR4)))
  have z0 : Y.cell? ⟨qn, 0, none⟩ = some (.int .u64 0) := hR3.cell (i := 0) rfl
  have z1 : Y.cell? ⟨qn, 1, none⟩ = some (.int .u64 0) := hR3.cell (i := 1) rfl
  have zf0 := hR3.frozen 0
  have zf1 := hR3.frozen 1
  clear hR1 hR2 hR3 hR4
  have hSZ : (((Y.setCell ⟨qn, 0, none⟩ (.int .u64 l.1)).setCell ⟨qn, 1, none⟩ (.int .u64 l.2)).cell? ⟨x4, 0, none⟩ = some (.iface 24 (.pointer (some ⟨b, 0, none⟩))) ∧ ((Y.setCell ⟨qn, 0, none⟩ (.int .u64 l.1)).setCell ⟨qn, 1, none⟩ (.int .u64 l.2)).cell? ⟨qa, 3, none⟩ = some (.int .u64 (oat a.c 2))) := HSZ.out qn Y HR.out.2.1 HR.out.2.2.2
  refine ⟨hSY, ?_⟩
  simp only [Act.put, List.setIfInBounds_toArray, List.set_cons_zero, List.set_cons_succ]
  refine held_none (i := 11) (w' := (Y.setCell ⟨qn, 0, none⟩ (.int .u64 l.1)).setCell ⟨qn, 1, none⟩ (.int .u64 l.2)) (by kernel_rfl) rfl rfl rfl (by go_simp) hSZ ?_
  simp only [List.setIfInBounds_toArray, List.set_cons_zero, List.set_cons_succ]
  refine held_take (i := 12) (v := (.int .i64 e2)) 12 rfl rfl (by kernel_rfl) (by kernel_rfl) (by kernel_rfl) rfl (fun w' hw' => by obtain ⟨r0, r1⟩ := hw'; go_simp) hSZ ?_
  simp only [Act.put, List.setIfInBounds_toArray, List.set_cons_zero, List.set_cons_succ]
  refine held_end (by kernel_rfl) ?_ _
  have HQN : Hid (qn ≠ b ∧ qn ≠ g) := by
    have r4' : w0.heap.size ≤ qn := HR.out.2.2.2
    have hlb := HZ.out.1.ltb
    have hlg := HZ.out.1.ltg
    exact hid (by omega)
  have HY : Hid (∃ Y2, Y2 = (Y.setCell ⟨qn, 0, none⟩ (.int .u64 l.1)).setCell ⟨qn, 1, none⟩ (.int .u64 l.2) ∧ WdAt Y2 b g c s2 ∧ JoAt Y2 b g x7 x4 x10 (.func (.func tf) #[] tcap) F ∧ Fr Y2 ∧ TrAt Y2 qa a ∧ TrAt Y2 qb bb ∧ Keeps (two b g) w Y2 ∧ Blk Y2 qn 139 #[.int .u64 l.1, .int .u64 l.2] ∧ w.heap.size ≤ qn) := by
    obtain ⟨r1, r2, r3, r4⟩ := HR.out
    have r4' : w0.heap.size ≤ qn := r4
    have hlb := HZ.out.1.ltb
    have hlg := HZ.out.1.ltg
    have k2 := keeps_set2 Y qn (.int .u64 l.1) (.int .u64 l.2)
    have k1 : Keeps (two b g) w0 Y := ((Keeps.refl _ w0).drewN 1).trans r2
    have k3 : Keeps (two b g) w0 ((Y.setCell ⟨qn, 0, none⟩ (.int .u64 l.1)).setCell ⟨qn, 1, none⟩ (.int .u64 l.2)) := k1.step k2 (fun i hi e => by omega)
    exact hid ⟨_, rfl, r1.kept k2 (by omega) (by omega), HZ.out.2.1.kept k3 (fun x hx => (HZ.out.2.1.off x hx).1), HE.out.keep HZ.out.2.2.1 k3, HZ.out.2.2.2.1.kept k3 HP.out.2.1, HZ.out.2.2.2.2.1.kept k3 HP.out.2.2.2.1, (HZ.out.2.2.2.2.2.mono (fun _ _ f => f.elim)).trans k3, r3.set2 _ _, Nat.le_trans HZ.out.2.2.2.2.2.size r4'⟩
  obtain ⟨Y2, HY⟩ : ∃ Y2, Hid (Y2 = (Y.setCell ⟨qn, 0, none⟩ (.int .u64 l.1)).setCell ⟨qn, 1, none⟩ (.int .u64 l.2) ∧ WdAt Y2 b g c s2 ∧ JoAt Y2 b g x7 x4 x10 (.func (.func tf) #[] tcap) F ∧ Fr Y2 ∧ TrAt Y2 qa a ∧ TrAt Y2 qb bb ∧ Keeps (two b g) w Y2 ∧ Blk Y2 qn 139 #[.int .u64 l.1, .int .u64 l.2] ∧ w.heap.size ≤ qn) := by
    obtain ⟨Y2, h⟩ := HY.out
    exact ⟨Y2, hid h⟩
  rw [← HY.out.1]
  replace HY := hid HY.out.2
  clear HR HZ hSY z0 z1 zf0 zf1 hS0 hS1 hSX hd0 HSZ hSZ
  by_cases he2 : e2 = 0
  rotate_left
  · go_wp2_with fail
    go_ret2
    obtain ⟨rfl, rfl⟩ := hu2.out.2 he2
    exact ⟨_, rfl, HY.out.1, HY.out.2.2.2.2.2.1.mono (fun i _ q => .inl q), fun q => absurd q he2⟩
  subst he2
  replace hu2 := hid (hu2.out.1 rfl)
  obtain ⟨r, e3, s3, htr, hu3⟩ : ∃ r e3 s3, Hid (treF (oat a.c 3) s2 = ((r, e3), s3)) ∧ Hid ((e3 = 0 → bnd (uni T k r (some bb)) (fun p => bnd (binF (a.res p.2) l (toT p.1, rkT p.1)) (fun t => rtn (some t, p.2)) (none, 0)) (none, 0) s3 = (((t, n), e), s1)) ∧ (e3 ≠ 0 → e = e3 ∧ s1 = s3)) := by
    obtain ⟨l, f, s2, h1, h2, h3⟩ := bnd_step hu2.out
    exact ⟨l, f, s2, hid h1, hid ⟨h2, fun hf => ⟨(h3 hf).1, (h3 hf).2.1⟩⟩⟩
  have HC : Hid (∀ X : World, X.heap = Y2.heap ∧ X.os = Y2.os ∧ X.tape = Y2.tape ∧ X.output = Y2.output → Calls Try.prog 52 #[(.iface 24 (.pointer (some ⟨b, 0, none⟩))), .int .u64 (oat a.c 3)] X fun rr w' => ∃ po, rr = .returned (.tuple #[.pointer po, .int .i64 e3]) ∧ Hid (WdAt w' b g c s3 ∧ JoAt w' b g x7 x4 x10 (.func (.func tf) #[] tcap) F ∧ Fr w' ∧ TrAt w' qa a ∧ TrAt w' qb bb ∧ Keeps (two b g) w w' ∧ Blk w' qn 139 #[.int .u64 l.1, .int .u64 l.2] ∧ w.heap.size ≤ qn ∧ (e3 = 0 → PtF b g F w' po r ∧ ∀ q, po = some ⟨q, 0, none⟩ → w.heap.size ≤ q ∧ qn < q)) ∧ w'.cell? ⟨x4, 0, none⟩ = some (.iface 24 (.pointer (some ⟨b, 0, none⟩))) ∧ w'.cell? ⟨qa, 4, none⟩ = some (.int .u64 (oat a.c 3))) := by
    refine hid (fun X hX => ?_)
    obtain ⟨y1, y2, y3, y4, y5, y6, y7, y8⟩ := HY.out
    have kx : Keeps (two b g) Y2 X := (Keeps.refl _ Y2).like hX.1 hX.2.1 hX.2.2.1 hX.2.2.2
    have hsx : X.heap.size = Y2.heap.size := by rw [hX.1]
    refine (tree_any htr (y4.wc 3) (show WdAt X b g c s2 from (y1.like hX.1))).mono ?_
    rintro rr w' ⟨po, rfl, h1, k1, h2⟩
    have k2 := kx.trans k1
    have hlb := y1.ltb
    have hlg := y1.ltg
    have hq := y7.lt
    have hj := y2.kept k2 (fun x hx => (y2.off x hx).1)
    have hA := y4.kept k2 HP.out.2.1
    refine ⟨_, rfl, hid ⟨h1, hj, HE.out.keep y3 k2, hA, y5.kept k2 HP.out.2.2.2.1, y6.trans k2, y7.kept k2 (fun f => ?_), y8, fun he => ?_⟩, hj.c4, hA.cells.2.2.2.2.1⟩
    · rcases f with f | f
      · have := HQN.out.1; omega
      · have := HQN.out.2; omega
    · have h2 := h2 he
      cases r with
      | none => exact ⟨h2, fun q hq => by rw [show po = none from h2] at hq; cases hq⟩
      | some t0 =>
        obtain ⟨q, h3, h4, h5⟩ := h2
        have hf := treF_f htr.out
        have hlt : Y2.heap.size ≤ q := by omega
        refine ⟨⟨q, h4, h5, ⟨fun f => (by rw [hf] at f; cases f), fun f => ?_⟩, fun f => by rcases f with f | f <;> omega⟩, fun q' hq' => ?_⟩
        · have := HE.out.lt y3 f
          omega
        · rw [h4] at hq'
          injection hq' with hq'
          injection hq' with hq'
          subst hq'
          have := y6.size
          omega
  have hS2 : Y2.cell? ⟨x4, 0, none⟩ = some (.iface 24 (.pointer (some ⟨b, 0, none⟩))) ∧ Y2.cell? ⟨qa, 4, none⟩ = some (.int .u64 (oat a.c 3)) := ⟨HY.out.2.1.c4, HY.out.2.2.2.1.cells.2.2.2.2.1⟩
  clear HY
  go_wp2_with fail
  go_region_held3 (fun W : World => W.cell? ⟨x4, 0, none⟩ = some (.iface 24 (.pointer (some ⟨b, 0, none⟩))) ∧ W.cell? ⟨qa, 4, none⟩ = some (.int .u64 (oat a.c 3))) (first | assumption | (exact hS2) | go_keep) ((go_at_call 52; refine (HC.out _ (by exact ⟨rfl, rfl, rfl, rfl⟩)).mono ?_; rintro e_ w2 ⟨po, rfl, h2, hS3⟩))
  clear HC hS2 hS3
  by_cases he3 : e3 = 0
  rotate_left
  · go_wp2_with fail
    go_ret2
    obtain ⟨rfl, rfl⟩ := hu3.out.2 he3
    exact ⟨_, rfl, h2.out.1, h2.out.2.2.2.2.2.1.mono (fun i _ q => .inl q), fun q => absurd q he3⟩
  subst he3
  replace hu3 := hid (hu3.out.1 rfl)
  have c10 := h2.out.2.1.c10
  go_wp2_with fail
  rw [HM.out]
  obtain ⟨t4, n4, e4, s4, hun, hu4⟩ : ∃ t4 n4 e4 s4, Hid (uni T k r (some bb) s3 = (((t4, n4), e4), s4)) ∧ Hid ((e4 = 0 → bnd (binF (a.res n4) l (toT t4, rkT t4)) (fun t => rtn (some t, n4)) (none, 0) s4 = (((t, n), e), s1)) ∧ (e4 ≠ 0 → e = e4 ∧ s1 = s4)) := by
    obtain ⟨⟨t4, n4⟩, f, s4, h1, h2, h3⟩ := bnd_step hu3.out
    exact ⟨t4, n4, f, s4, hid h1, hid ⟨h2, fun hf => ⟨(h3 hf).1, (h3 hf).2.1⟩⟩⟩
  obtain ⟨i1, i2, i3, i4, i5, i6, i7, i8, i9⟩ := h2.out
  obtain ⟨i9, i10⟩ := i9 trivial
  have hpq : ∀ q, po = some ⟨q, 0, none⟩ → (some ⟨qb, 0, none⟩ : Option Addr) ≠ some ⟨q, 0, none⟩ := fun q hq e => by
    injection e with e
    injection e with e
    have h1 := i10 q hq
    have h2 := HLT.out.2
    omega
  refine (HIH.out r (some bb) po (some ⟨qb, 0, none⟩) s3 s4 w2 t4 n4 e4 hun.out i1 i2 i3 i9 ⟨qb, rfl, i5, HP.out.2.2.1, HP.out.2.2.2.1⟩ hpq).mono ?_
  rintro rr w3 ⟨po4, rfl, h3, k3, hh3⟩
  have HW : Hid (WdAt w3 b g c s4 ∧ JoAt w3 b g x7 x4 x10 (.func (.func tf) #[] tcap) F ∧ Keeps (fun i => two b g i ∨ F i ∨ (some ⟨qa, 0, none⟩ : Option Addr) = some ⟨i, 0, none⟩ ∨ (some ⟨qb, 0, none⟩ : Option Addr) = some ⟨i, 0, none⟩) w w3 ∧ Blk w3 qn 139 #[.int .u64 l.1, .int .u64 l.2] ∧ w.heap.size ≤ qn ∧ (e4 = 0 → PtF b g F w3 po4 t4 ∧ TrAt w3 qa (a.res n4) ∧ ∀ q u, TrAt w q u → (u.f = true ↔ F q) → ¬ two b g q → q ≠ qa → q ≠ qb → TrAt w3 q (u.res n4))) := by
    have hlt := HLT.out
    have hpo : ∀ q, po = some ⟨q, 0, none⟩ → w.heap.size ≤ q ∧ qn < q := i10
    have hF : ∀ i, F i → i < w.heap.size := fun i hi => HLF.out i hi
    refine hid ⟨h3, i2.kept k3 (fun x hx f => ?_), (i6.mono (fun _ _ q => .inl q)).step k3 (fun i hi f => ?_), i7.kept k3 (fun f => ?_), i8, fun he => ⟨(hh3 he).1, (hh3 he).2 _ _ i4 HP.out.1 HP.out.2.1 (fun e => ?_) (fun e => ?_), fun q u hu hq h2 h5 h6 => (hh3 he).2 q u (hu.kept i6 h2) hq h2 (fun e => ?_) (fun e => ?_)⟩⟩
    · rcases f with f | f | f | f
      · exact (i2.off x hx).1 f
      · exact (i2.off x hx).2 f
      · cases r with
        | none => rw [show po = none from i9] at f; cases f
        | some t0 =>
          obtain ⟨q, h4, h5, _⟩ := i9
          rw [h4] at f
          injection f with f
          injection f with f
          exact i2.ne h5 x hx f.symm
      · injection f with f
        injection f with f
        exact i2.ne i5 x hx f.symm
    · rcases f with f | f | f | f
      · exact .inl f
      · exact .inr (.inl f)
      · have := hpo i f; omega
      · exact .inr (.inr (.inr f))
    · rcases f with f | f | f | f
      · rcases f with f | f
        · exact HQN.out.1 f
        · exact HQN.out.2 f
      · have := hF _ f; omega
      · have := hpo _ f; omega
      · injection f with f
        injection f with f
        omega
    · have := hpo _ e; omega
    · injection e with e
      injection e with e
      exact HP.out.2.2.2.2 e.symm
    · have := hpo _ e
      have := hu.lt
      omega
    · injection e with e
      injection e with e
      exact h6 e.symm
  clear h2 h3 k3 hh3 hpq i1 i2 i3 i4 i5 i6 i7 i8 i9 i10 c10 hu3
  by_cases he4 : e4 = 0
  rotate_left
  · go_wp2_with fail
    go_ret2
    obtain ⟨rfl, rfl⟩ := hu4.out.2 he4
    exact ⟨_, rfl, HW.out.1, HW.out.2.2.1, fun q => absurd q he4⟩
  subst he4
  replace hu4 := hid (hu4.out.1 rfl)
  obtain ⟨t5, e5, s5, hbi, hu5⟩ : ∃ t5 e5 s5, Hid (binF (a.res n4) l (toT t4, rkT t4) s4 = ((t5, e5), s5)) ∧ Hid ((e5 = 0 → t = some t5 ∧ n = n4 ∧ e = 0 ∧ s1 = s5) ∧ (e5 ≠ 0 → e = e5 ∧ s1 = s5)) := by
    obtain ⟨t5, f, s5, h1, h2, h3⟩ := bnd_step hu4.out
    refine ⟨t5, f, s5, hid h1, hid ⟨fun hf => ?_, fun hf => ⟨(h3 hf).1, (h3 hf).2.1⟩⟩⟩
    obtain ⟨q1, q2, q3⟩ := rtn_eq (h2 hf)
    injection q1 with q1 q4
    exact ⟨q1, q4, q2, q3⟩
  have HC : Hid (∀ X : World, X.heap = w3.heap ∧ X.os = w3.os ∧ X.tape = w3.tape ∧ X.output = w3.output → Calls Try.prog 80 #[.pointer (some ⟨qa, 0, none⟩), (.iface 24 (.pointer (some ⟨b, 0, none⟩))), .agg #[.int .u64 l.1, .int .u64 l.2], .agg #[.int .u64 (toT t4), .int .u64 (rkT t4)]] X fun rr w' => rr = .returned (.int .i64 e5) ∧ Hid (WdAt w' b g c s5 ∧ Keeps (fun i => two b g i ∨ F i ∨ (some ⟨qa, 0, none⟩ : Option Addr) = some ⟨i, 0, none⟩ ∨ (some ⟨qb, 0, none⟩ : Option Addr) = some ⟨i, 0, none⟩) w w' ∧ (e5 = 0 → TrAt w' qa t5 ∧ t5.f = a.f ∧ ∀ q u, TrAt w q u → (u.f = true ↔ F q) → ¬ two b g q → q ≠ qa → q ≠ qb → TrAt w' q (u.res n4))) ∧ w'.cell? ⟨x4, 0, none⟩ = some (.iface 24 (.pointer (some ⟨b, 0, none⟩))) ∧ w'.cell? ⟨qn, 0, none⟩ = some (.int .u64 l.1) ∧ w'.cell? ⟨qn, 1, none⟩ = some (.int .u64 l.2)) := by
    refine hid (fun X hX => ?_)
    obtain ⟨y1, y2, y3, y4, y5, y6⟩ := HW.out
    obtain ⟨y6, y7, y8⟩ := y6 rfl
    have kx : Keeps (fun _ => False) w3 X := (Keeps.refl _ w3).like hX.1 hX.2.1 hX.2.2.1 hX.2.2.2
    refine (bind_any hbi (braF_isW hbr.out (HLT.out.1)) (toT_isW t4) (y1.like hX.1) (y7.kept kx (fun f => f)) ⟨fun e => HP.out.2.1 (.inl e), fun e => HP.out.2.1 (.inr e)⟩).mono ?_
    rintro rr w' ⟨rfl, h1, k1, h2⟩
    have k2 : Keeps (three b g qa) w3 w' := (kx.mono (fun _ _ f => f.elim)).trans k1
    have hqn : qn ≠ qa := by
      intro e
      have h1 := y4.lt
      have h2 := HLT.out.2
      omega
    have hn : ¬ three b g qa qn := fun f => by
      rcases f with f | f | f
      · exact hqn f
      · exact HQN.out.1 f
      · exact HQN.out.2 f
    have hj := y2.kept k2 (fun x hx f => by rcases f with f | f; exact y2.ne y7 x hx f; exact (y2.off x hx).1 f)
    have hb := y4.kept k2 hn
    refine ⟨rfl, hid ⟨h1, y3.step k2 (fun i hi f => ?_), fun he => ⟨h2 he, ?_, fun q u hu hq h2 h5 h6 => (y8 q u hu hq h2 h5 h6).kept k2 (fun f => ?_)⟩⟩, hj.c4, hb.cell rfl, hb.cell rfl⟩
    · rcases f with f | f
      · subst f; exact .inr (.inr (.inl rfl))
      · exact .inl f
    · rw [binF_f hbi.out, res_f]
    · rcases f with f | f
      · exact h5 f
      · exact h2 f
  have hS4 : w3.cell? ⟨x4, 0, none⟩ = some (.iface 24 (.pointer (some ⟨b, 0, none⟩))) ∧ w3.cell? ⟨qn, 0, none⟩ = some (.int .u64 l.1) ∧ w3.cell? ⟨qn, 1, none⟩ = some (.int .u64 l.2) := ⟨HW.out.2.1.c4, HW.out.2.2.2.1.cell rfl, HW.out.2.2.2.1.cell rfl⟩
  have HTO : Hid (∀ X : World, X.heap = w3.heap → Calls Try.prog 58 #[.pointer po4] X fun rr w' => rr = .returned (.int .u64 (toT t4)) ∧ w' = X) := hid (fun X hX => toT_any (base := 0) (by
    obtain ⟨y6, _, _⟩ := HW.out.2.2.2.2.2 rfl
    exact (y6.like hX).to))
  have HRK : Hid (∀ X : World, X.heap = w3.heap → Calls Try.prog 81 #[.pointer po4] X fun rr w' => rr = .returned (.int .u64 (rkT t4)) ∧ w' = X) := hid (fun X hX => rkT_any (base := 0) (by
    obtain ⟨y6, _, _⟩ := HW.out.2.2.2.2.2 rfl
    exact (y6.like hX).to))
  clear HW
  go_wp2_with fail
  go_region_held3 (fun W : World => W.cell? ⟨x4, 0, none⟩ = some (.iface 24 (.pointer (some ⟨b, 0, none⟩))) ∧ W.cell? ⟨qn, 0, none⟩ = some (.int .u64 l.1) ∧ W.cell? ⟨qn, 1, none⟩ = some (.int .u64 l.2)) (first | assumption | (exact hS4) | go_keep) (first
    | (go_at_call 58; refine (HTO.out _ (by exact rfl)).mono ?_; rintro e_ w_ ⟨rfl, hw_⟩; subst w_)
    | (go_at_call 81; refine (HRK.out _ (by exact rfl)).mono ?_; rintro e_ w_ ⟨rfl, hw_⟩; subst w_)
    | (go_at_call 80; refine (HC.out _ (by exact ⟨rfl, rfl, rfl, rfl⟩)).mono ?_; rintro e_ w4 ⟨rfl, h4, hS5⟩))
  all_goals clear HC HTO HRK hS4
  all_goals
    by_cases he5 : e5 = 0
    · subst he5
      go_wp2_with fail
      go_ret2
      obtain ⟨rfl, rfl, rfl, rfl⟩ := hu5.out.1 (by first | rfl | trivial)
      obtain ⟨h5, h6, h7⟩ := h4.out.2.2 (by first | rfl | trivial)
      exact ⟨_, rfl, h4.out.1, h4.out.2.1, fun _ => ⟨⟨qa, rfl, h5, by rw [h6]; exact HP.out.1, HP.out.2.1⟩, fun q u hu hq h2 h8 h9 => h7 q u hu hq h2 (fun e => h8 (by rw [e])) (fun e => h9 (by rw [e]))⟩⟩
    · go_wp2_with fail
      go_ret2
      obtain ⟨rfl, rfl⟩ := hu5.out.2 he5
      exact ⟨_, rfl, h4.out.1, h4.out.2.1, fun q => absurd q he5⟩
end Go.Proofs.Ytalopkllldnipaa


/- The walk of unite's closure: the trees exchanged; and any trees (layer 24). No statement of the seat is proved here. -/
namespace Go.Proofs.Ytalopkllldnipaa
open Go.RowKit

set_option maxHeartbeats 4000000 in
theorem join_sw {tf : Nat} {tcap : Array Value} {T : Wd → (Int × Int) × Wd} {Fr : World → Prop} {F : Nat → Prop} {b g c x7 x4 x10 : Nat} (E : TurnAt tf tcap T Fr F b g c) (k : Nat) (hk : k < 1000) (IH : Joins tf tcap T Fr F b g c x7 x4 x10 k) (qa qb : Nat) (a bb : Tr) (s s1 : Wd) (w : World) (t : Option Tr) (n e : Int) (hu : uniS T k bb a s = (((t, n), e), s1)) (h : WdAt w b g c s) (hj : JoAt w b g x7 x4 x10 (.func (.func tf) #[] tcap) F) (hf : Fr w)
    (ha : TrAt w qa a) (haf : a.f = true ↔ F qa) (ha2 : ¬ two b g qa) (hb : TrAt w qb bb) (hbf : bb.f = true ↔ F qb) (hb2 : ¬ two b g qb) (hne : qa ≠ qb) (hbe : befE bb.ent a.ent) :
    Calls Try.prog 77 #[.pointer (some ⟨qa, 0, none⟩), .pointer (some ⟨qb, 0, none⟩), .int .i64 ((k + 1 : Nat) : Int), .pointer (some ⟨x7, 0, none⟩), .pointer (some ⟨x4, 0, none⟩), .pointer (some ⟨x10, 0, none⟩)] w (JPost b g c F (some ⟨qa, 0, none⟩) (some ⟨qb, 0, none⟩) w t n e s1) := by
  have hent := E.ent
  have hbd : decide (befE bb.ent a.ent) = true := by simp [hbe]
  have HA := hid (ahead_any hb ha)
  rw [hbd] at HA
  have HX : Hid (WdAt w b g c s ∧ JoAt w b g x7 x4 x10 (.func (.func tf) #[] tcap) F ∧ Fr w ∧ TrAt w qb bb ∧ TrAt w qa a) := hid ⟨h, hj, hf, hb, ha⟩
  have HLT : Hid (isW (oat bb.c 2) ∧ qa < w.heap.size ∧ qb < w.heap.size) := hid ⟨hb.wc 2, ha.lt, hb.lt⟩
  have HLF : Hid (∀ i, F i → i < w.heap.size) := hid (fun i hi => E.lt hf hi)
  have HP : Hid ((bb.f = true ↔ F qb) ∧ ¬ two b g qb ∧ (a.f = true ↔ F qa) ∧ ¬ two b g qa ∧ qb ≠ qa) := hid ⟨hbf, hb2, haf, ha2, fun e => hne e.symm⟩
  obtain ⟨m, hm⟩ : ∃ m : Int, m = ((k + 1 : Nat) : Int) := ⟨_, rfl⟩
  have HM : Hid (m - 1 = (k : Int)) := hid (by omega)
  rw [← hm]
  have hm0 : (m == 0) = false := by simp; omega
  have hm1 : 0 < m := by omega
  have hm2 : m ≤ 1000 := by omega
  have HE := hid E
  have HIH := hid IH
  have HU := hid hu
  clear h hj hf ha haf ha2 hb hbf hb2 hne hbe hbd hm E IH hu
  go_enter Try.func77, Try.ntmps77
  go_wp2_with fail
  refine HA.out.mono ?_
  rintro r w0 ⟨rfl, k0⟩
  have HZ : Hid (WdAt w0 b g c s ∧ JoAt w0 b g x7 x4 x10 (.func (.func tf) #[] tcap) F ∧ Fr w0 ∧ TrAt w0 qb bb ∧ TrAt w0 qa a ∧ Keeps (fun _ => False) w w0) := by
    obtain ⟨h1, h2, h3, h4, h5⟩ := HX.out
    exact hid ⟨h1.kept k0 (fun f => f) (fun f => f), h2.kept k0 (fun _ _ f => f), HE.out.keep h3 (k0.mono (fun _ _ f => f.elim)), h4.kept k0 (fun f => f), h5.kept k0 (fun f => f), k0⟩
  clear HX HA k0
  go_wp2_with fail
  obtain ⟨l, e2, s2, hbr, hu2⟩ : ∃ l e2 s2, Hid (braF (oat bb.c 2) s = ((l, e2), s2)) ∧ Hid ((e2 = 0 → bnd (treF (oat bb.c 3)) (fun r => bnd (uni T k r (some a)) (fun p => bnd (binF (bb.res p.2) l (toT p.1, rkT p.1)) (fun t => rtn (some t, p.2)) (none, 0)) (none, 0)) (none, 0) s2 = (((t, n), e), s1)) ∧ (e2 ≠ 0 → e = e2 ∧ s1 = s2)) := by
    obtain ⟨l, f, s2, h1, h2, h3⟩ := bnd_step HU.out
    exact ⟨l, f, s2, hid h1, hid ⟨h2, fun hf => ⟨(h3 hf).1, (h3 hf).2.1⟩⟩⟩
  have hd0 : WdAt w0.drew b g c s := HZ.out.1.drewN 1
  have hSX : ∀ X : World, Keeps (two b g) w0.drew X → X.cell? ⟨x4, 0, none⟩ = some (.iface 24 (.pointer (some ⟨b, 0, none⟩))) ∧ X.cell? ⟨qb, 3, none⟩ = some (.int .u64 (oat bb.c 2)) := fun X hX => by
    have k1 : Keeps (two b g) w0 X := ((Keeps.refl _ w0).drewN 1).trans hX
    exact ⟨(HZ.out.2.1.kept k1 (fun x hx => (HZ.out.2.1.off x hx).1)).c4, (HZ.out.2.2.2.1.kept k1 HP.out.2.1).cells.2.2.2.1⟩
  have hS0 : w0.drew.cell? ⟨x4, 0, none⟩ = some (.iface 24 (.pointer (some ⟨b, 0, none⟩))) ∧ w0.drew.cell? ⟨qb, 3, none⟩ = some (.int .u64 (oat bb.c 2)) := hSX _ (Keeps.refl _ _)
  have hS1 : (w0.drew.alloc (.cells #[.int .u64 0, .int .u64 0] 139)).cell? ⟨x4, 0, none⟩ = some (.iface 24 (.pointer (some ⟨b, 0, none⟩))) ∧ (w0.drew.alloc (.cells #[.int .u64 0, .int .u64 0] 139)).cell? ⟨qb, 3, none⟩ = some (.int .u64 (oat bb.c 2)) := hSX _ ((keeps_new _ _).mono (fun _ _ f => f.elim))
  have HSZ : Hid (∀ (qn : Nat) (Y : World), Keeps (two b g) w0.drew Y → w0.drew.heap.size ≤ qn → ((Y.setCell ⟨qn, 0, none⟩ (.int .u64 l.1)).setCell ⟨qn, 1, none⟩ (.int .u64 l.2)).cell? ⟨x4, 0, none⟩ = some (.iface 24 (.pointer (some ⟨b, 0, none⟩))) ∧ ((Y.setCell ⟨qn, 0, none⟩ (.int .u64 l.1)).setCell ⟨qn, 1, none⟩ (.int .u64 l.2)).cell? ⟨qb, 3, none⟩ = some (.int .u64 (oat bb.c 2))) := hid (fun qn Y hY hq => by
    have k1 : Keeps (two b g) w0 Y := ((Keeps.refl _ w0).drewN 1).trans hY
    have k2 := keeps_set2 Y qn (.int .u64 l.1) (.int .u64 l.2)
    have hl4 := World.block_lt_of_cell? _ _ HZ.out.2.1.c4
    have hlA := HZ.out.2.2.2.1.lt
    have hq' : w0.heap.size ≤ qn := hq
    have k3 : Keeps (two b g) w0 ((Y.setCell ⟨qn, 0, none⟩ (.int .u64 l.1)).setCell ⟨qn, 1, none⟩ (.int .u64 l.2)) := k1.step k2 (fun i hi e => by omega)
    exact ⟨(HZ.out.2.1.kept k3 (fun x hx => (HZ.out.2.1.off x hx).1)).c4, (HZ.out.2.2.2.1.kept k3 HP.out.2.1).cells.2.2.2.1⟩)
  clear HU
  refine wp_held_end (S := fun W : World => W.cell? ⟨x4, 0, none⟩ = some (.iface 24 (.pointer (some ⟨b, 0, none⟩))) ∧ W.cell? ⟨qb, 3, none⟩ = some (.int .u64 (oat bb.c 2))) 13 rfl hmxp ?_
  simp only [Array.replicate_succ, Array.replicate_zero, List.push_toArray, List.nil_append, List.cons_append]
  refine held_take (i := 0) (v := (.iface 24 (.pointer (some ⟨b, 0, none⟩)))) 36 rfl rfl (by kernel_rfl) (by kernel_rfl) (by kernel_rfl) rfl (fun w' hw' => by obtain ⟨r0, r1⟩ := hw'; go_simp) hS0 ?_
  simp only [Act.put, List.setIfInBounds_toArray, List.set_cons_zero, List.set_cons_succ]
  refine held_take (i := 1) (v := (.pointer (some ⟨qb, 0, none⟩))) 37 rfl rfl (by kernel_rfl) (by kernel_rfl) (by kernel_rfl) rfl (fun w' hw' => by obtain ⟨r0, r1⟩ := hw'; go_simp) hS0 ?_
  simp only [Act.put, List.setIfInBounds_toArray, List.set_cons_zero, List.set_cons_succ]
  refine held_take (i := 2) (v := (.pointer (some ⟨qb, 0, none⟩))) 38 rfl rfl (by kernel_rfl) (by kernel_rfl) (by kernel_rfl) rfl (fun w' hw' => by obtain ⟨r0, r1⟩ := hw'; go_simp) hS0 ?_
  simp only [Act.put, List.setIfInBounds_toArray, List.set_cons_zero, List.set_cons_succ]
  refine held_take (i := 3) (v := (.pointer (some ⟨qb, 1, none⟩))) 39 rfl rfl (by kernel_rfl) (by kernel_rfl) (by kernel_rfl) rfl (fun w' hw' => by obtain ⟨r0, r1⟩ := hw'; go_simp) hS0 ?_
  simp only [Act.put, List.setIfInBounds_toArray, List.set_cons_zero, List.set_cons_succ]
  refine held_take (i := 4) (v := (.pointer (some ⟨qb, 3, none⟩))) 40 rfl rfl (by kernel_rfl) (by kernel_rfl) (by kernel_rfl) rfl (fun w' hw' => by obtain ⟨r0, r1⟩ := hw'; go_simp) hS0 ?_
  simp only [Act.put, List.setIfInBounds_toArray, List.set_cons_zero, List.set_cons_succ]
  refine held_take (i := 5) (v := (.int .u64 (oat bb.c 2))) 41 rfl rfl (by kernel_rfl) (by kernel_rfl) (by kernel_rfl) rfl (fun w' hw' => by obtain ⟨r0, r1⟩ := hw'; go_simp) hS0 ?_
  simp only [Act.put, List.setIfInBounds_toArray, List.set_cons_zero, List.set_cons_succ]
  refine held_call3_alloc (i := 6) (j := 10) (f := 79) (args := #[.iface 24 (.pointer (some ⟨b, 0, none⟩)), .int .u64 (oat bb.c 2)]) (o := .cells #[.int .u64 0, .int .u64 0] 139) (Rbr w0.drew b g c l e2 s2) 42 11 35 43 44 7 8 9 (by kernel_rfl) (by kernel_rfl) (by kernel_rfl) rfl rfl rfl rfl rfl rfl rfl rfl rfl rfl (by decide) (by decide) (fun t => rfl) (fun t => rfl) (fun t => rfl) (fun t => rfl) (fun t => rfl) (by kernel_rfl) ⟨by kernel_rfl, by kernel_rfl⟩ ⟨by kernel_rfl, by kernel_rfl⟩ ⟨by kernel_rfl, by kernel_rfl⟩ ⟨by kernel_rfl, by kernel_rfl⟩ ⟨by kernel_rfl, by kernel_rfl⟩ ⟨by kernel_rfl, by kernel_rfl⟩ (fun w' hw' => by go_simp) (fun w' v hw' => by go_simp) (fun w' => by go_simp) (fun a' w' => by go_simp) (fun y z w' hw' => by go_simp) (fun y z w' hw' => by go_simp) (fun y z w' hw' => by go_simp) (fun y z p w' hw' => by go_simp) (fun y z p w' hw' => by go_simp) (fun y z p w' hw' => by go_simp) hS0 hS1 (brA hbr hd0 hSX) (brB hbr hd0 hSX) ?_
  rintro qn y z Y ⟨rfl, rfl, hR1, hR2, hR3, hR4⟩
  have hSY := hSX Y hR2
  have HR := hid (And.intro hR1 (And.intro hR2 (And.intro hR3 hR4)))
  have z0 : Y.cell? ⟨qn, 0, none⟩ = some (.int .u64 0) := hR3.cell (i := 0) rfl
  have z1 : Y.cell? ⟨qn, 1, none⟩ = some (.int .u64 0) := hR3.cell (i := 1) rfl
  have zf0 := hR3.frozen 0
  have zf1 := hR3.frozen 1
  clear hR1 hR2 hR3 hR4
  have hSZ : (((Y.setCell ⟨qn, 0, none⟩ (.int .u64 l.1)).setCell ⟨qn, 1, none⟩ (.int .u64 l.2)).cell? ⟨x4, 0, none⟩ = some (.iface 24 (.pointer (some ⟨b, 0, none⟩))) ∧ ((Y.setCell ⟨qn, 0, none⟩ (.int .u64 l.1)).setCell ⟨qn, 1, none⟩ (.int .u64 l.2)).cell? ⟨qb, 3, none⟩ = some (.int .u64 (oat bb.c 2))) := HSZ.out qn Y HR.out.2.1 HR.out.2.2.2
  refine ⟨hSY, ?_⟩
  simp only [Act.put, List.setIfInBounds_toArray, List.set_cons_zero, List.set_cons_succ]
  refine held_none (i := 11) (w' := (Y.setCell ⟨qn, 0, none⟩ (.int .u64 l.1)).setCell ⟨qn, 1, none⟩ (.int .u64 l.2)) (by kernel_rfl) rfl rfl rfl (by go_simp) hSZ ?_
  simp only [List.setIfInBounds_toArray, List.set_cons_zero, List.set_cons_succ]
  refine held_take (i := 12) (v := (.int .i64 e2)) 12 rfl rfl (by kernel_rfl) (by kernel_rfl) (by kernel_rfl) rfl (fun w' hw' => by obtain ⟨r0, r1⟩ := hw'; go_simp) hSZ ?_
  simp only [Act.put, List.setIfInBounds_toArray, List.set_cons_zero, List.set_cons_succ]
  refine held_end (by kernel_rfl) ?_ _
  have HQN : Hid (qn ≠ b ∧ qn ≠ g) := by
    have r4' : w0.heap.size ≤ qn := HR.out.2.2.2
    have hlb := HZ.out.1.ltb
    have hlg := HZ.out.1.ltg
    exact hid (by omega)
  have HY : Hid (∃ Y2, Y2 = (Y.setCell ⟨qn, 0, none⟩ (.int .u64 l.1)).setCell ⟨qn, 1, none⟩ (.int .u64 l.2) ∧ WdAt Y2 b g c s2 ∧ JoAt Y2 b g x7 x4 x10 (.func (.func tf) #[] tcap) F ∧ Fr Y2 ∧ TrAt Y2 qb bb ∧ TrAt Y2 qa a ∧ Keeps (two b g) w Y2 ∧ Blk Y2 qn 139 #[.int .u64 l.1, .int .u64 l.2] ∧ w.heap.size ≤ qn) := by
    obtain ⟨r1, r2, r3, r4⟩ := HR.out
    have r4' : w0.heap.size ≤ qn := r4
    have hlb := HZ.out.1.ltb
    have hlg := HZ.out.1.ltg
    have k2 := keeps_set2 Y qn (.int .u64 l.1) (.int .u64 l.2)
    have k1 : Keeps (two b g) w0 Y := ((Keeps.refl _ w0).drewN 1).trans r2
    have k3 : Keeps (two b g) w0 ((Y.setCell ⟨qn, 0, none⟩ (.int .u64 l.1)).setCell ⟨qn, 1, none⟩ (.int .u64 l.2)) := k1.step k2 (fun i hi e => by omega)
    exact hid ⟨_, rfl, r1.kept k2 (by omega) (by omega), HZ.out.2.1.kept k3 (fun x hx => (HZ.out.2.1.off x hx).1), HE.out.keep HZ.out.2.2.1 k3, HZ.out.2.2.2.1.kept k3 HP.out.2.1, HZ.out.2.2.2.2.1.kept k3 HP.out.2.2.2.1, (HZ.out.2.2.2.2.2.mono (fun _ _ f => f.elim)).trans k3, r3.set2 _ _, Nat.le_trans HZ.out.2.2.2.2.2.size r4'⟩
  obtain ⟨Y2, HY⟩ : ∃ Y2, Hid (Y2 = (Y.setCell ⟨qn, 0, none⟩ (.int .u64 l.1)).setCell ⟨qn, 1, none⟩ (.int .u64 l.2) ∧ WdAt Y2 b g c s2 ∧ JoAt Y2 b g x7 x4 x10 (.func (.func tf) #[] tcap) F ∧ Fr Y2 ∧ TrAt Y2 qb bb ∧ TrAt Y2 qa a ∧ Keeps (two b g) w Y2 ∧ Blk Y2 qn 139 #[.int .u64 l.1, .int .u64 l.2] ∧ w.heap.size ≤ qn) := by
    obtain ⟨Y2, h⟩ := HY.out
    exact ⟨Y2, hid h⟩
  rw [← HY.out.1]
  replace HY := hid HY.out.2
  clear HR HZ hSY z0 z1 zf0 zf1 hS0 hS1 hSX hd0 HSZ hSZ
  by_cases he2 : e2 = 0
  rotate_left
  · go_wp2_with fail
    go_ret2
    obtain ⟨rfl, rfl⟩ := hu2.out.2 he2
    exact ⟨_, rfl, HY.out.1, HY.out.2.2.2.2.2.1.mono (fun i _ q => .inl q), fun q => absurd q he2⟩
  subst he2
  replace hu2 := hid (hu2.out.1 rfl)
  obtain ⟨r, e3, s3, htr, hu3⟩ : ∃ r e3 s3, Hid (treF (oat bb.c 3) s2 = ((r, e3), s3)) ∧ Hid ((e3 = 0 → bnd (uni T k r (some a)) (fun p => bnd (binF (bb.res p.2) l (toT p.1, rkT p.1)) (fun t => rtn (some t, p.2)) (none, 0)) (none, 0) s3 = (((t, n), e), s1)) ∧ (e3 ≠ 0 → e = e3 ∧ s1 = s3)) := by
    obtain ⟨l, f, s2, h1, h2, h3⟩ := bnd_step hu2.out
    exact ⟨l, f, s2, hid h1, hid ⟨h2, fun hf => ⟨(h3 hf).1, (h3 hf).2.1⟩⟩⟩
  have HC : Hid (∀ X : World, X.heap = Y2.heap ∧ X.os = Y2.os ∧ X.tape = Y2.tape ∧ X.output = Y2.output → Calls Try.prog 52 #[(.iface 24 (.pointer (some ⟨b, 0, none⟩))), .int .u64 (oat bb.c 3)] X fun rr w' => ∃ po, rr = .returned (.tuple #[.pointer po, .int .i64 e3]) ∧ Hid (WdAt w' b g c s3 ∧ JoAt w' b g x7 x4 x10 (.func (.func tf) #[] tcap) F ∧ Fr w' ∧ TrAt w' qb bb ∧ TrAt w' qa a ∧ Keeps (two b g) w w' ∧ Blk w' qn 139 #[.int .u64 l.1, .int .u64 l.2] ∧ w.heap.size ≤ qn ∧ (e3 = 0 → PtF b g F w' po r ∧ ∀ q, po = some ⟨q, 0, none⟩ → w.heap.size ≤ q ∧ qn < q)) ∧ w'.cell? ⟨x4, 0, none⟩ = some (.iface 24 (.pointer (some ⟨b, 0, none⟩))) ∧ w'.cell? ⟨qb, 4, none⟩ = some (.int .u64 (oat bb.c 3))) := by
    refine hid (fun X hX => ?_)
    obtain ⟨y1, y2, y3, y4, y5, y6, y7, y8⟩ := HY.out
    have kx : Keeps (two b g) Y2 X := (Keeps.refl _ Y2).like hX.1 hX.2.1 hX.2.2.1 hX.2.2.2
    have hsx : X.heap.size = Y2.heap.size := by rw [hX.1]
    refine (tree_any htr (y4.wc 3) (show WdAt X b g c s2 from (y1.like hX.1))).mono ?_
    rintro rr w' ⟨po, rfl, h1, k1, h2⟩
    have k2 := kx.trans k1
    have hlb := y1.ltb
    have hlg := y1.ltg
    have hq := y7.lt
    have hj := y2.kept k2 (fun x hx => (y2.off x hx).1)
    have hA := y4.kept k2 HP.out.2.1
    refine ⟨_, rfl, hid ⟨h1, hj, HE.out.keep y3 k2, hA, y5.kept k2 HP.out.2.2.2.1, y6.trans k2, y7.kept k2 (fun f => ?_), y8, fun he => ?_⟩, hj.c4, hA.cells.2.2.2.2.1⟩
    · rcases f with f | f
      · have := HQN.out.1; omega
      · have := HQN.out.2; omega
    · have h2 := h2 he
      cases r with
      | none => exact ⟨h2, fun q hq => by rw [show po = none from h2] at hq; cases hq⟩
      | some t0 =>
        obtain ⟨q, h3, h4, h5⟩ := h2
        have hf := treF_f htr.out
        have hlt : Y2.heap.size ≤ q := by omega
        refine ⟨⟨q, h4, h5, ⟨fun f => (by rw [hf] at f; cases f), fun f => ?_⟩, fun f => by rcases f with f | f <;> omega⟩, fun q' hq' => ?_⟩
        · have := HE.out.lt y3 f
          omega
        · rw [h4] at hq'
          injection hq' with hq'
          injection hq' with hq'
          subst hq'
          have := y6.size
          omega
  have hS2 : Y2.cell? ⟨x4, 0, none⟩ = some (.iface 24 (.pointer (some ⟨b, 0, none⟩))) ∧ Y2.cell? ⟨qb, 4, none⟩ = some (.int .u64 (oat bb.c 3)) := ⟨HY.out.2.1.c4, HY.out.2.2.2.1.cells.2.2.2.2.1⟩
  clear HY
  go_wp2_with fail
  go_region_held3 (fun W : World => W.cell? ⟨x4, 0, none⟩ = some (.iface 24 (.pointer (some ⟨b, 0, none⟩))) ∧ W.cell? ⟨qb, 4, none⟩ = some (.int .u64 (oat bb.c 3))) (first | assumption | (exact hS2) | go_keep) ((go_at_call 52; refine (HC.out _ (by exact ⟨rfl, rfl, rfl, rfl⟩)).mono ?_; rintro e_ w2 ⟨po, rfl, h2, hS3⟩))
  clear HC hS2 hS3
  by_cases he3 : e3 = 0
  rotate_left
  · go_wp2_with fail
    go_ret2
    obtain ⟨rfl, rfl⟩ := hu3.out.2 he3
    exact ⟨_, rfl, h2.out.1, h2.out.2.2.2.2.2.1.mono (fun i _ q => .inl q), fun q => absurd q he3⟩
  subst he3
  replace hu3 := hid (hu3.out.1 rfl)
  have c10 := h2.out.2.1.c10
  go_wp2_with fail
  rw [HM.out]
  obtain ⟨t4, n4, e4, s4, hun, hu4⟩ : ∃ t4 n4 e4 s4, Hid (uni T k r (some a) s3 = (((t4, n4), e4), s4)) ∧ Hid ((e4 = 0 → bnd (binF (bb.res n4) l (toT t4, rkT t4)) (fun t => rtn (some t, n4)) (none, 0) s4 = (((t, n), e), s1)) ∧ (e4 ≠ 0 → e = e4 ∧ s1 = s4)) := by
    obtain ⟨⟨t4, n4⟩, f, s4, h1, h2, h3⟩ := bnd_step hu3.out
    exact ⟨t4, n4, f, s4, hid h1, hid ⟨h2, fun hf => ⟨(h3 hf).1, (h3 hf).2.1⟩⟩⟩
  obtain ⟨i1, i2, i3, i4, i5, i6, i7, i8, i9⟩ := h2.out
  obtain ⟨i9, i10⟩ := i9 trivial
  have hpq : ∀ q, po = some ⟨q, 0, none⟩ → (some ⟨qa, 0, none⟩ : Option Addr) ≠ some ⟨q, 0, none⟩ := fun q hq e => by
    injection e with e
    injection e with e
    have h1 := i10 q hq
    have h2 := HLT.out.2
    omega
  refine (HIH.out r (some a) po (some ⟨qa, 0, none⟩) s3 s4 w2 t4 n4 e4 hun.out i1 i2 i3 i9 ⟨qa, rfl, i5, HP.out.2.2.1, HP.out.2.2.2.1⟩ hpq).mono ?_
  rintro rr w3 ⟨po4, rfl, h3, k3, hh3⟩
  have HW : Hid (WdAt w3 b g c s4 ∧ JoAt w3 b g x7 x4 x10 (.func (.func tf) #[] tcap) F ∧ Keeps (fun i => two b g i ∨ F i ∨ (some ⟨qa, 0, none⟩ : Option Addr) = some ⟨i, 0, none⟩ ∨ (some ⟨qb, 0, none⟩ : Option Addr) = some ⟨i, 0, none⟩) w w3 ∧ Blk w3 qn 139 #[.int .u64 l.1, .int .u64 l.2] ∧ w.heap.size ≤ qn ∧ (e4 = 0 → PtF b g F w3 po4 t4 ∧ TrAt w3 qb (bb.res n4) ∧ ∀ q u, TrAt w q u → (u.f = true ↔ F q) → ¬ two b g q → q ≠ qa → q ≠ qb → TrAt w3 q (u.res n4))) := by
    have hlt := HLT.out
    have hpo : ∀ q, po = some ⟨q, 0, none⟩ → w.heap.size ≤ q ∧ qn < q := i10
    have hF : ∀ i, F i → i < w.heap.size := fun i hi => HLF.out i hi
    refine hid ⟨h3, i2.kept k3 (fun x hx f => ?_), (i6.mono (fun _ _ q => .inl q)).step k3 (fun i hi f => ?_), i7.kept k3 (fun f => ?_), i8, fun he => ⟨(hh3 he).1, (hh3 he).2 _ _ i4 HP.out.1 HP.out.2.1 (fun e => ?_) (fun e => ?_), fun q u hu hq h2 h5 h6 => (hh3 he).2 q u (hu.kept i6 h2) hq h2 (fun e => ?_) (fun e => ?_)⟩⟩
    · rcases f with f | f | f | f
      · exact (i2.off x hx).1 f
      · exact (i2.off x hx).2 f
      · cases r with
        | none => rw [show po = none from i9] at f; cases f
        | some t0 =>
          obtain ⟨q, h4, h5, _⟩ := i9
          rw [h4] at f
          injection f with f
          injection f with f
          exact i2.ne h5 x hx f.symm
      · injection f with f
        injection f with f
        exact i2.ne i5 x hx f.symm
    · rcases f with f | f | f | f
      · exact .inl f
      · exact .inr (.inl f)
      · have := hpo i f; omega
      · exact .inr (.inr (.inl f))
    · rcases f with f | f | f | f
      · rcases f with f | f
        · exact HQN.out.1 f
        · exact HQN.out.2 f
      · have := hF _ f; omega
      · have := hpo _ f; omega
      · injection f with f
        injection f with f
        omega
    · have := hpo _ e; omega
    · injection e with e
      injection e with e
      exact HP.out.2.2.2.2 e.symm
    · have := hpo _ e
      have := hu.lt
      omega
    · injection e with e
      injection e with e
      exact h5 e.symm
  clear h2 h3 k3 hh3 hpq i1 i2 i3 i4 i5 i6 i7 i8 i9 i10 c10 hu3
  by_cases he4 : e4 = 0
  rotate_left
  · go_wp2_with fail
    go_ret2
    obtain ⟨rfl, rfl⟩ := hu4.out.2 he4
    exact ⟨_, rfl, HW.out.1, HW.out.2.2.1, fun q => absurd q he4⟩
  subst he4
  replace hu4 := hid (hu4.out.1 rfl)
  obtain ⟨t5, e5, s5, hbi, hu5⟩ : ∃ t5 e5 s5, Hid (binF (bb.res n4) l (toT t4, rkT t4) s4 = ((t5, e5), s5)) ∧ Hid ((e5 = 0 → t = some t5 ∧ n = n4 ∧ e = 0 ∧ s1 = s5) ∧ (e5 ≠ 0 → e = e5 ∧ s1 = s5)) := by
    obtain ⟨t5, f, s5, h1, h2, h3⟩ := bnd_step hu4.out
    refine ⟨t5, f, s5, hid h1, hid ⟨fun hf => ?_, fun hf => ⟨(h3 hf).1, (h3 hf).2.1⟩⟩⟩
    obtain ⟨q1, q2, q3⟩ := rtn_eq (h2 hf)
    injection q1 with q1 q4
    exact ⟨q1, q4, q2, q3⟩
  have HC : Hid (∀ X : World, X.heap = w3.heap ∧ X.os = w3.os ∧ X.tape = w3.tape ∧ X.output = w3.output → Calls Try.prog 80 #[.pointer (some ⟨qb, 0, none⟩), (.iface 24 (.pointer (some ⟨b, 0, none⟩))), .agg #[.int .u64 l.1, .int .u64 l.2], .agg #[.int .u64 (toT t4), .int .u64 (rkT t4)]] X fun rr w' => rr = .returned (.int .i64 e5) ∧ Hid (WdAt w' b g c s5 ∧ Keeps (fun i => two b g i ∨ F i ∨ (some ⟨qa, 0, none⟩ : Option Addr) = some ⟨i, 0, none⟩ ∨ (some ⟨qb, 0, none⟩ : Option Addr) = some ⟨i, 0, none⟩) w w' ∧ (e5 = 0 → TrAt w' qb t5 ∧ t5.f = bb.f ∧ ∀ q u, TrAt w q u → (u.f = true ↔ F q) → ¬ two b g q → q ≠ qa → q ≠ qb → TrAt w' q (u.res n4))) ∧ w'.cell? ⟨x4, 0, none⟩ = some (.iface 24 (.pointer (some ⟨b, 0, none⟩))) ∧ w'.cell? ⟨qn, 0, none⟩ = some (.int .u64 l.1) ∧ w'.cell? ⟨qn, 1, none⟩ = some (.int .u64 l.2)) := by
    refine hid (fun X hX => ?_)
    obtain ⟨y1, y2, y3, y4, y5, y6⟩ := HW.out
    obtain ⟨y6, y7, y8⟩ := y6 rfl
    have kx : Keeps (fun _ => False) w3 X := (Keeps.refl _ w3).like hX.1 hX.2.1 hX.2.2.1 hX.2.2.2
    refine (bind_any hbi (braF_isW hbr.out (HLT.out.1)) (toT_isW t4) (y1.like hX.1) (y7.kept kx (fun f => f)) ⟨fun e => HP.out.2.1 (.inl e), fun e => HP.out.2.1 (.inr e)⟩).mono ?_
    rintro rr w' ⟨rfl, h1, k1, h2⟩
    have k2 : Keeps (three b g qb) w3 w' := (kx.mono (fun _ _ f => f.elim)).trans k1
    have hqn : qn ≠ qb := by
      intro e
      have h1 := y4.lt
      have h2 := HLT.out.2
      omega
    have hn : ¬ three b g qb qn := fun f => by
      rcases f with f | f | f
      · exact hqn f
      · exact HQN.out.1 f
      · exact HQN.out.2 f
    have hj := y2.kept k2 (fun x hx f => by rcases f with f | f; exact y2.ne y7 x hx f; exact (y2.off x hx).1 f)
    have hb := y4.kept k2 hn
    refine ⟨rfl, hid ⟨h1, y3.step k2 (fun i hi f => ?_), fun he => ⟨h2 he, ?_, fun q u hu hq h2 h5 h6 => (y8 q u hu hq h2 h5 h6).kept k2 (fun f => ?_)⟩⟩, hj.c4, hb.cell rfl, hb.cell rfl⟩
    · rcases f with f | f
      · subst f; exact .inr (.inr (.inr rfl))
      · exact .inl f
    · rw [binF_f hbi.out, res_f]
    · rcases f with f | f
      · exact h6 f
      · exact h2 f
  have hS4 : w3.cell? ⟨x4, 0, none⟩ = some (.iface 24 (.pointer (some ⟨b, 0, none⟩))) ∧ w3.cell? ⟨qn, 0, none⟩ = some (.int .u64 l.1) ∧ w3.cell? ⟨qn, 1, none⟩ = some (.int .u64 l.2) := ⟨HW.out.2.1.c4, HW.out.2.2.2.1.cell rfl, HW.out.2.2.2.1.cell rfl⟩
  have HTO : Hid (∀ X : World, X.heap = w3.heap → Calls Try.prog 58 #[.pointer po4] X fun rr w' => rr = .returned (.int .u64 (toT t4)) ∧ w' = X) := hid (fun X hX => toT_any (base := 0) (by
    obtain ⟨y6, _, _⟩ := HW.out.2.2.2.2.2 rfl
    exact (y6.like hX).to))
  have HRK : Hid (∀ X : World, X.heap = w3.heap → Calls Try.prog 81 #[.pointer po4] X fun rr w' => rr = .returned (.int .u64 (rkT t4)) ∧ w' = X) := hid (fun X hX => rkT_any (base := 0) (by
    obtain ⟨y6, _, _⟩ := HW.out.2.2.2.2.2 rfl
    exact (y6.like hX).to))
  clear HW
  go_wp2_with fail
  go_region_held3 (fun W : World => W.cell? ⟨x4, 0, none⟩ = some (.iface 24 (.pointer (some ⟨b, 0, none⟩))) ∧ W.cell? ⟨qn, 0, none⟩ = some (.int .u64 l.1) ∧ W.cell? ⟨qn, 1, none⟩ = some (.int .u64 l.2)) (first | assumption | (exact hS4) | go_keep) (first
    | (go_at_call 58; refine (HTO.out _ (by exact rfl)).mono ?_; rintro e_ w_ ⟨rfl, hw_⟩; subst w_)
    | (go_at_call 81; refine (HRK.out _ (by exact rfl)).mono ?_; rintro e_ w_ ⟨rfl, hw_⟩; subst w_)
    | (go_at_call 80; refine (HC.out _ (by exact ⟨rfl, rfl, rfl, rfl⟩)).mono ?_; rintro e_ w4 ⟨rfl, h4, hS5⟩))
  all_goals clear HC HTO HRK hS4
  all_goals
    by_cases he5 : e5 = 0
    · subst he5
      go_wp2_with fail
      go_ret2
      obtain ⟨rfl, rfl, rfl, rfl⟩ := hu5.out.1 (by first | rfl | trivial)
      obtain ⟨h5, h6, h7⟩ := h4.out.2.2 (by first | rfl | trivial)
      exact ⟨_, rfl, h4.out.1, h4.out.2.1, fun _ => ⟨⟨qb, rfl, h5, by rw [h6]; exact HP.out.1, HP.out.2.1⟩, fun q u hu hq h2 h8 h9 => h7 q u hu hq h2 (fun e => h8 (by rw [e])) (fun e => h9 (by rw [e]))⟩⟩
    · go_wp2_with fail
      go_ret2
      obtain ⟨rfl, rfl⟩ := hu5.out.2 he5
      exact ⟨_, rfl, h4.out.1, h4.out.2.1, fun q => absurd q he5⟩

theorem join_any {tf : Nat} {tcap : Array Value} {T : Wd → (Int × Int) × Wd} {Fr : World → Prop} {F : Nat → Prop} {b g c x7 x4 x10 : Nat} (E : TurnAt tf tcap T Fr F b g c) : ∀ k, k < 1000 → Joins tf tcap T Fr F b g c x7 x4 x10 k := by
  intro k
  induction k with
  | zero =>
    intro hk ta tb pa pb s s1 w t n e hu h hj hf ha hb hne
    cases ta with
    | none =>
      rw [show pa = none from ha]
      exact join_none E 0 tb pb s s1 w t n e hu h hj hf hb
    | some A =>
      obtain ⟨qa, rfl, a1, a2, a3⟩ := ha
      cases tb with
      | none =>
        rw [show pb = none from hb]
        exact join_some E 0 qa A s s1 w t n e hu h hj hf a1 a2 a3
      | some B =>
        obtain ⟨qb, rfl, b1, b2, b3⟩ := hb
        exact join_zero qa qb A B s s1 w t n e hu h hj
  | succ k ih =>
    intro hk ta tb pa pb s s1 w t n e hu h hj hf ha hb hne
    cases ta with
    | none =>
      rw [show pa = none from ha]
      exact join_none E (k + 1) tb pb s s1 w t n e hu h hj hf hb
    | some A =>
      obtain ⟨qa, rfl, a1, a2, a3⟩ := ha
      cases tb with
      | none =>
        rw [show pb = none from hb]
        exact join_some E (k + 1) qa A s s1 w t n e hu h hj hf a1 a2 a3
      | some B =>
        obtain ⟨qb, rfl, b1, b2, b3⟩ := hb
        have hq : qa ≠ qb := fun e => hne qa rfl (by rw [e])
        rw [uni_two] at hu
        by_cases hbe : befE B.ent A.ent
        · rw [if_pos hbe, if_pos hbe] at hu
          exact join_sw E k (by omega) (ih (by omega)) qa qb A B s s1 w t n e hu h hj hf a1 a2 a3 b1 b2 b3 hq hbe
        · rw [if_neg hbe, if_neg hbe] at hu
          exact join_in E k (by omega) (ih (by omega)) qa qb A B s s1 w t n e hu h hj hf a1 a2 a3 b1 b2 b3 hq hbe
end Go.Proofs.Ytalopkllldnipaa
