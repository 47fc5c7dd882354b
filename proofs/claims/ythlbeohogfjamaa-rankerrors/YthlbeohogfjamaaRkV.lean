
/- What a turn keeps to, and what unite's closure stands on (layer 24). No statement of the seat is proved here. -/
import Derived.Test.YthlbeohogfjamaaRkU
import Derived.Test.YthlbeohogfjamaaARoundD
namespace Go.Proofs.Ythlbeohogfjamaa
open Go.RowKit

theorem wp_held_end {P : Program} {ops : Array Oper} {Q : Exit → Act → World → Prop} {id : Nat} {a : Act} {w : World} {S : World → Prop} (N : Nat) (hN : ops.size = N) (hm : P.follows .mixedOrders = true)
    (h : wpAnyH P .any ops (atEnd (Q .normal)) S N (Array.replicate N false) a w.drew) : (Code.region id ops true).wp P Q a w := by
  subst hN
  exact Code.wp_mono (fun e a w h => by cases e <;> first | exact h | exact h.elim) (wp_region_held hm h)
theorem hmxp : Try.prog.follows .mixedOrders = true := by kernel_rfl
/-- A function that has a body is entered. -/
noncomputable def entB (f : Nat) : Bool := match Try.prog.funcs[f]? with
  | some fn => !(fn.name == "runtime.NumGoroutine") && fn.body.isSome
  | none => false
theorem enters {f : Nat} (h : entB f = true) (args : Array Value) (w : World) : (callFunc f args).run Try.prog w = .ok (.enter f args) w := by
  unfold entB at h
  cases hf : Try.prog.funcs[f]? with
  | none => rw [hf] at h; simp at h
  | some fn =>
    rw [hf] at h
    simp only [Bool.and_eq_true, Bool.not_eq_true'] at h
    obtain ⟨h1, h2⟩ := h
    have h3 : ¬ fn.body = none := fun e => by rw [e] at h2; simp at h2
    have h4 : ¬ fn.name = "runtime.NumGoroutine" := by simpa using h1
    simp [callFunc, hf, h4, h3]
theorem uni_none (T : Wd → (Int × Int) × Wd) (k : Nat) (b : Option Tr) : uni T k none b = bnd T (fun n => rtn (b.map (Tr.res n), n)) (none, 0) := by
  cases k <;> rfl
theorem uni_some (T : Wd → (Int × Int) × Wd) (k : Nat) (a : Tr) : uni T k (some a) none = bnd T (fun n => rtn (some (a.res n), n)) (none, 0) := by
  cases k <;> rfl
/-- Two trees put together, the first one being the root. -/
def uniS (T : Wd → (Int × Int) × Wd) (k : Nat) (A B : Tr) : Wd → ((Option Tr × Int) × Int) × Wd :=
  bnd (braF (oat A.c 2)) (fun l => bnd (treF (oat A.c 3)) (fun r => bnd (uni T k r (some B)) (fun p => bnd (binF (A.res p.2) l (toT p.1, rkT p.1)) (fun t => rtn (some t, p.2)) (none, 0)) (none, 0)) (none, 0)) (none, 0)
theorem uni_two (T : Wd → (Int × Int) × Wd) (k : Nat) (a b : Tr) : uni T (k + 1) (some a) (some b) = uniS T k (if befE b.ent a.ent then b else a) (if befE b.ent a.ent then a else b) := by
  show bnd _ _ _ = _
  unfold uniS
  rfl
theorem res_c (n : Int) (t : Tr) : (t.res n).c = t.c := by unfold Tr.res; split <;> rfl
theorem res_f (n : Int) (t : Tr) : (t.res n).f = t.f := by unfold Tr.res; split <;> rfl
theorem res_no {n : Int} {t : Tr} (h : t.f = false) : t.res n = t := by unfold Tr.res; rw [h]; rfl
theorem res_res (n : Int) (t : Tr) : (t.res n).res n = t.res n := by unfold Tr.res; split <;> simp_all

theorem bnd_step {α β : Type} {G0 : Wd → (α × Int) × Wd} {G : α → Wd → (β × Int) × Wd} {d y : β} {s s2 : Wd} {e : Int} (h : bnd G0 G d s = ((y, e), s2)) :
    ∃ x f s1, G0 s = ((x, f), s1) ∧ (f = 0 → G x s1 = ((y, e), s2)) ∧ (f ≠ 0 → e = f ∧ s2 = s1 ∧ y = d) := by
  obtain ⟨⟨⟨x, f⟩, s1⟩, hF⟩ : ∃ r, G0 s = r := ⟨_, rfl⟩
  refine ⟨x, f, s1, hF, fun hf => ?_, fun hf => ?_⟩
  · subst hf
    rw [bnd_ok hF] at h
    exact h
  · rw [bnd_no hF hf] at h
    simp only [Prod.mk.injEq] at h
    exact ⟨h.1.2.symm, h.2.symm, h.1.1.symm⟩
theorem rtn_eq {α : Type} {x y : α} {s s1 : Wd} {e : Int} (h : rtn x s = ((y, e), s1)) : y = x ∧ e = 0 ∧ s1 = s := by
  unfold rtn at h
  simp only [Prod.mk.injEq] at h
  exact ⟨h.1.1.symm, h.1.2.symm, h.2.symm⟩
theorem treF_f {x e : Int} {t : Tr} {s s1 : Wd} (h : treF x s = ((some t, e), s1)) : t.f = false := by
  unfold treF at h
  split at h
  · have := (rtn_eq h).1; cases this
  · obtain ⟨l, f, s2, _, h2, h3⟩ := bnd_step h
    by_cases hf : f = 0
    · have := (rtn_eq (h2 hf)).1
      injection this with this
      rw [this]
    · have := (h3 hf).2.2; cases this
theorem braF_isW {x e : Int} {l : Int × Int} {s s1 : Wd} (h : braF x s = ((l, e), s1)) (hx : isW x) : isW l.1 := by
  unfold braF at h
  split at h
  · rw [(rtn_eq h).1]; exact zero_isW
  · obtain ⟨r, f, s2, _, h2, h3⟩ := bnd_step h
    by_cases hf : f = 0
    · rw [(rtn_eq (h2 hf)).1]; exact hx
    · rw [(h3 hf).2.2]; exact zero_isW
theorem toT_isW (t : Option Tr) : isW (toT t) := by
  cases t with
  | none => exact zero_isW
  | some t => exact uw_isW _
theorem binF_f {t t' : Tr} {l r : Int × Int} {s s1 : Wd} {e : Int} (h : binF t l r s = ((t', e), s1)) : t'.f = t.f := by
  obtain ⟨_, f, s2, _, h2, h3⟩ := bnd_step h
  by_cases hf : f = 0
  · rw [(rtn_eq (h2 hf)).1]
  · rw [(h3 hf).2.2]

/-- What is done at the turn: T; Fr is what it stands on, F are the blocks of what lay nowhere yet. -/
structure TurnAt (tf : Nat) (tcap : Array Value) (T : Wd → (Int × Int) × Wd) (Fr : World → Prop) (F : Nat → Prop) (b g c : Nat) : Prop where
  ent : ∀ (args : Array Value) (X : World), (callFunc tf args).run Try.prog X = .ok (.enter tf args) X
  call : ∀ (X : World) (s s1 : Wd) (n e : Int), T s = ((n, e), s1) → WdAt X b g c s → Fr X → Calls Try.prog tf tcap X fun r X' => r = .returned (.int .i64 e) ∧ WdAt X' b g c s1 ∧ Keeps (fun i => two b g i ∨ F i) X X' ∧ (e = 0 → ∀ q t, TrAt X q t → (t.f = true ↔ F q) → ¬ two b g q → TrAt X' q (t.res n))
  keep : ∀ {X X' : World}, Fr X → Keeps (two b g) X X' → Fr X'
  off : ∀ i, F i → ¬ two b g i
  lt : ∀ {X : World} {i : Nat}, Fr X → F i → i < X.heap.size

/-- The boxes of what unite's closure has. -/
structure JoAt (w : World) (b g x7 x4 x10 : Nat) (tv : Value) (F : Nat → Prop) : Prop where
  c7 : w.cell? ⟨x7, 0, none⟩ = some tv
  c4 : w.cell? ⟨x4, 0, none⟩ = some (.iface 24 (.pointer (some ⟨b, 0, none⟩)))
  c10 : w.cell? ⟨x10, 0, none⟩ = some (.func (.func 77) #[] #[.pointer (some ⟨x7, 0, none⟩), .pointer (some ⟨x4, 0, none⟩), .pointer (some ⟨x10, 0, none⟩)])
  off : ∀ x, x = x7 ∨ x = x4 ∨ x = x10 → ¬ two b g x ∧ ¬ F x
theorem JoAt.kept {S : Nat → Prop} {w w' : World} {b g x7 x4 x10 : Nat} {tv : Value} {F : Nat → Prop} (h : JoAt w b g x7 x4 x10 tv F) (k : Keeps S w w') (hS : ∀ x, x = x7 ∨ x = x4 ∨ x = x10 → ¬ S x) : JoAt w' b g x7 x4 x10 tv F :=
  ⟨(World.cell?_of_block (k.block x7 (World.block_lt_of_cell? _ _ h.c7) (hS _ (.inl rfl)))).trans h.c7, (World.cell?_of_block (k.block x4 (World.block_lt_of_cell? _ _ h.c4) (hS _ (.inr (.inl rfl))))).trans h.c4, (World.cell?_of_block (k.block x10 (World.block_lt_of_cell? _ _ h.c10) (hS _ (.inr (.inr rfl))))).trans h.c10, h.off⟩
theorem JoAt.ne {w : World} {b g x7 x4 x10 tf q : Nat} {tcap : Array Value} {F : Nat → Prop} {t : Tr} (h : JoAt w b g x7 x4 x10 (.func (.func tf) #[] tcap) F) (ht : TrAt w q t) : ∀ x, x = x7 ∨ x = x4 ∨ x = x10 → x ≠ q := by
  have c0 := ht.cells.1
  rintro x (rfl | rfl | rfl) rfl
  · rw [h.c7] at c0; simp at c0
  · rw [h.c4] at c0; simp at c0
  · rw [h.c10] at c0; simp at c0
/-- A tree, or none. -/
def PtF (b g : Nat) (F : Nat → Prop) (w : World) (po : Option Addr) (t : Option Tr) : Prop := match t with
  | none => po = none
  | some t => ∃ q, po = some ⟨q, 0, none⟩ ∧ TrAt w q t ∧ (t.f = true ↔ F q) ∧ ¬ two b g q
theorem PtF.to {b g : Nat} {F : Nat → Prop} {w : World} {po : Option Addr} {t : Option Tr} (h : PtF b g F w po t) : PtAt w 0 po t := by
  cases t with
  | none => exact h
  | some t => obtain ⟨q, h1, h2, _⟩ := h; exact ⟨q, Nat.zero_le _, h1, h2⟩
theorem PtF.like {b g : Nat} {F : Nat → Prop} {w X : World} {po : Option Addr} {t : Option Tr} (h : PtF b g F w po t) (e : X.heap = w.heap) : PtF b g F X po t := by
  cases t with
  | none => exact h
  | some t => obtain ⟨q, h1, h2, h3, h4⟩ := h; exact ⟨q, h1, ⟨by unfold Blk; rw [e]; exact h2.blk, h2.len, h2.wat, h2.wc⟩, h3, h4⟩
theorem PtF.kept {b g : Nat} {F S : Nat → Prop} {w w' : World} {po : Option Addr} {t : Option Tr} (h : PtF b g F w po t) (k : Keeps S w w') (hS : ∀ q, po = some ⟨q, 0, none⟩ → ¬ S q) : PtF b g F w' po t := by
  cases t with
  | none => exact h
  | some t => obtain ⟨q, h1, h2, h3, h4⟩ := h; exact ⟨q, h1, h2.kept k (hS q h1), h3, h4⟩
/-- What unite's closure answers. -/
def JPost (b g c : Nat) (F : Nat → Prop) (pa pb : Option Addr) (w : World) (t : Option Tr) (n e : Int) (s1 : Wd) : Ending → World → Prop := fun r w' =>
  ∃ po, r = .returned (.tuple #[.pointer po, .int .i64 e]) ∧ WdAt w' b g c s1 ∧ Keeps (fun i => two b g i ∨ F i ∨ pa = some ⟨i, 0, none⟩ ∨ pb = some ⟨i, 0, none⟩) w w' ∧
    (e = 0 → PtF b g F w' po t ∧ ∀ q u, TrAt w q u → (u.f = true ↔ F q) → ¬ two b g q → pa ≠ some ⟨q, 0, none⟩ → pb ≠ some ⟨q, 0, none⟩ → TrAt w' q (u.res n))
/-- With so many nodes to the right it keeps to the words. -/
def Joins (tf : Nat) (tcap : Array Value) (T : Wd → (Int × Int) × Wd) (Fr : World → Prop) (F : Nat → Prop) (b g c x7 x4 x10 k : Nat) : Prop :=
  ∀ (ta tb : Option Tr) (pa pb : Option Addr) (s s1 : Wd) (w : World) (t : Option Tr) (n e : Int), uni T k ta tb s = (((t, n), e), s1) → WdAt w b g c s → JoAt w b g x7 x4 x10 (.func (.func tf) #[] tcap) F → Fr w → PtF b g F w pa ta → PtF b g F w pb tb → (∀ q, pa = some ⟨q, 0, none⟩ → pb ≠ some ⟨q, 0, none⟩) →
    Calls Try.prog 77 #[.pointer pa, .pointer pb, .int .i64 k, .pointer (some ⟨x7, 0, none⟩), .pointer (some ⟨x4, 0, none⟩), .pointer (some ⟨x10, 0, none⟩)] w (JPost b g c F pa pb w t n e s1)

set_option maxHeartbeats 2000000 in
theorem join_none {tf : Nat} {tcap : Array Value} {T : Wd → (Int × Int) × Wd} {Fr : World → Prop} {F : Nat → Prop} {b g c x7 x4 x10 : Nat} (E : TurnAt tf tcap T Fr F b g c) (k : Nat) (tb : Option Tr) (pb : Option Addr) (s s1 : Wd) (w : World) (t : Option Tr) (n e : Int) (hu : uni T k none tb s = (((t, n), e), s1)) (h : WdAt w b g c s) (hj : JoAt w b g x7 x4 x10 (.func (.func tf) #[] tcap) F) (hf : Fr w) (hb : PtF b g F w pb tb) :
    Calls Try.prog 77 #[.pointer none, .pointer pb, .int .i64 k, .pointer (some ⟨x7, 0, none⟩), .pointer (some ⟨x4, 0, none⟩), .pointer (some ⟨x10, 0, none⟩)] w (JPost b g c F none pb w t n e s1) := by
  have hent := E.ent
  rw [uni_none] at hu
  have HT : Hid (∃ n', T s = ((n', e), s1) ∧ (e = 0 → n' = n ∧ t = tb.map (Tr.res n))) := by
    rcases bnd_cases hu with ⟨m, s2, h1, h2⟩ | ⟨m, h1, h2, h3⟩
    · unfold rtn at h2
      simp only [Prod.mk.injEq] at h2
      obtain ⟨⟨⟨rfl, rfl⟩, rfl⟩, rfl⟩ := h2
      exact hid ⟨_, h1, fun _ => ⟨rfl, rfl⟩⟩
    · exact hid ⟨m, h3, fun q => absurd q h1⟩
  obtain ⟨n', HT⟩ : ∃ n', Hid (T s = ((n', e), s1) ∧ (e = 0 → n' = n ∧ t = tb.map (Tr.res n))) := by obtain ⟨a, b⟩ := HT.out; exact ⟨a, hid b⟩
  have HC := hid (E.call w s s1 n' e HT.out.1 h hf)
  have HB := hid hb
  have c7 := hj.c7
  clear h hf hb hj hu E
  go_enter Try.func77, Try.ntmps77
  go_wp2_with fail
  refine HC.out.mono ?_
  rintro r w1 ⟨rfl, h1, k1, hh⟩
  have HF := hid (And.intro h1 (And.intro k1 hh))
  clear HC h1 k1 hh
  go_wp2_with fail
  go_ret2
  refine ⟨_, rfl, HF.out.1, HF.out.2.1.mono (fun i _ q => by rcases q with q | q; exact .inl q; exact .inr (.inl q)), fun he => ?_⟩
  obtain ⟨rfl, rfl⟩ := HT.out.2 he
  have hh := HF.out.2.2 he
  refine ⟨?_, fun q u hu hq h2 _ _ => hh q u hu hq h2⟩
  cases tb with
  | none => exact HB.out
  | some B =>
    obtain ⟨q, h1, h2, h3, h4⟩ := HB.out
    exact ⟨q, h1, hh q B h2 h3 h4, by rw [res_f]; exact h3, h4⟩
set_option maxHeartbeats 2000000 in
theorem join_some {tf : Nat} {tcap : Array Value} {T : Wd → (Int × Int) × Wd} {Fr : World → Prop} {F : Nat → Prop} {b g c x7 x4 x10 : Nat} (E : TurnAt tf tcap T Fr F b g c) (k qa : Nat) (A : Tr) (s s1 : Wd) (w : World) (t : Option Tr) (n e : Int) (hu : uni T k (some A) none s = (((t, n), e), s1)) (h : WdAt w b g c s) (hj : JoAt w b g x7 x4 x10 (.func (.func tf) #[] tcap) F) (hf : Fr w) (hA : TrAt w qa A) (hAf : A.f = true ↔ F qa) (hA2 : ¬ two b g qa) :
    Calls Try.prog 77 #[.pointer (some ⟨qa, 0, none⟩), .pointer none, .int .i64 k, .pointer (some ⟨x7, 0, none⟩), .pointer (some ⟨x4, 0, none⟩), .pointer (some ⟨x10, 0, none⟩)] w (JPost b g c F (some ⟨qa, 0, none⟩) none w t n e s1) := by
  have hent := E.ent
  rw [uni_some] at hu
  have HT : Hid (∃ n', T s = ((n', e), s1) ∧ (e = 0 → n' = n ∧ t = some (A.res n))) := by
    rcases bnd_cases hu with ⟨m, s2, h1, h2⟩ | ⟨m, h1, h2, h3⟩
    · unfold rtn at h2
      simp only [Prod.mk.injEq] at h2
      obtain ⟨⟨⟨rfl, rfl⟩, rfl⟩, rfl⟩ := h2
      exact hid ⟨_, h1, fun _ => ⟨rfl, rfl⟩⟩
    · exact hid ⟨m, h3, fun q => absurd q h1⟩
  obtain ⟨n', HT⟩ : ∃ n', Hid (T s = ((n', e), s1) ∧ (e = 0 → n' = n ∧ t = some (A.res n))) := by obtain ⟨a, b⟩ := HT.out; exact ⟨a, hid b⟩
  have HC := hid (E.call w s s1 n' e HT.out.1 h hf)
  have HB := hid (And.intro hA (And.intro hAf hA2))
  have c7 := hj.c7
  clear h hf hA hAf hA2 hj hu E
  go_enter Try.func77, Try.ntmps77
  go_wp2_with fail
  refine HC.out.mono ?_
  rintro r w1 ⟨rfl, h1, k1, hh⟩
  have HF := hid (And.intro h1 (And.intro k1 hh))
  clear HC h1 k1 hh
  go_wp2_with fail
  go_ret2
  refine ⟨_, rfl, HF.out.1, HF.out.2.1.mono (fun i _ q => by rcases q with q | q; exact .inl q; exact .inr (.inl q)), fun he => ?_⟩
  obtain ⟨rfl, rfl⟩ := HT.out.2 he
  have hh := HF.out.2.2 he
  exact ⟨⟨qa, rfl, hh qa A HB.out.1 HB.out.2.1 HB.out.2.2, by rw [res_f]; exact HB.out.2.1, HB.out.2.2⟩, fun q u hu hq h2 _ _ => hh q u hu hq h2⟩
end Go.Proofs.Ythlbeohogfjamaa
