/-
  No statement of the seat is proved here. (Several texts in one: ALoop2, ALoop3, ALoop4.)
-/
import Derived.Test.YthgkbmfnidehbaaDoorArM

/-
  A loop over a function whose rounds may count on more than cells: what the loop's own book-keeping turns is its record, and nothing else. No statement of the seat is proved here.
-/
namespace Go.Proofs.YthgkbmfnidehbaaDoor
open Go.RowKit Go.Shelf

section
variable {F : Fence} {n : Nat} {P : Program} {α : Type}

/-- What a round begins and ends with: the loop's record, the block of deferred calls. -/
structure Book (w W : World) (r : Loop) : Prop where
  book : W.heap[w.heap.size + 1]? = some (.loop r)
  held : W.heap[w.heap.size]? = some (.deferred (some []))

theorem Book.put {w W : World} {r : Loop} (h : Book w W r) (r' : Loop) : Book w (W.putObj (w.heap.size + 1) (.loop r')) r' :=
  ⟨World.putObj_heap_same (Array.getElem?_eq_some_iff.1 h.book).1, (World.putObj_heap_other (by omega)).trans h.held⟩
theorem Book.keeps {w W W' : World} {r : Loop} (h : Book w W r) (k : KeepsFrom w.heap.size W W') : Book w W' r :=
  ⟨k.same _ _ (by omega) h.book rfl, k.same _ _ (Nat.le_refl _) h.held rfl⟩
/-- Blocks of deferred calls from B on are as they were. -/
def HeldOn (B : Nat) (W W' : World) : Prop := ∀ k x, B ≤ k → W.heap[k]? = some (.deferred x) → W'.heap[k]? = some (.deferred x)

/-- What a function that is ranged over does, for whatever the caller holds that no turn of a block of the function's own can break. -/
def SeqOwn (F : Fence) (n : Nat) (P : Program) (g : Nat) (lb : Array Value) (encs : α → Array Value) (Kp : World → World → Prop) (S Sp : List α → Prop) (N : Nat) (w : World) : Prop :=
  ∀ (l : Nat) (J Jx : List α → World → Prop) (W : World), Below w.heap.size w W → OwnFrom W.heap.size J → OwnFrom W.heap.size Jx →
    (∀ pre x W1, J pre W1 → pre.length < N → YieldAt F (n - 1) P l (encs x) W1 fun e W' => (e = .returned (.bool true) ∧ J (pre ++ [x]) W' ∧ Kp W1 W') ∨ (e = .returned (.bool false) ∧ Jx (pre ++ [x]) W' ∧ HeldOn W.heap.size W1 W')) →
    J [] W → CallsIn F n P g (#[.func (.yield l) #[] #[]] ++ lb) W fun e W' => (∃ v, e = .returned v) ∧ ((∃ xs, S xs ∧ J xs W') ∨ (∃ pre, Sp pre ∧ Jx pre W'))

theorem Book.own {w W : World} {r : Loop} (hsz : w.heap.size + 2 ≤ W.heap.size) : OwnFrom W.heap.size (fun (_ : Unit) X => Book w X r) := by
  rintro _ A B row hb hgr hr
  have lt1 := (Array.getElem?_eq_some_iff.1 hb.book).1
  exact ⟨(hgr.block _ lt1 (fun e => by have := (hr _ e.symm).1; omega)).trans hb.book, (hgr.block _ (by omega) (fun e => by have := (hr _ e.symm).1; omega)).trans hb.held⟩

/-- The loop, where Kp need abide nothing but a turn of the loop's own record. -/
theorem range_own {g : Operand} {ps : Array Tmp} {assign body : Code} {Q : Exit → Act → World → Prop} {a : Act} {w : World} (hro : F.round = none) (h1 : 1 ≤ n) {gf : Nat} {lb : Array Value} (hg : a.eval g = .func (.func gf) #[] lb) (hFg : F.fn gf)
    (eg : ∀ args w, (callFunc gf args).run P w = .ok (.enter gf args) w) {encs : α → Array Value} {Kp : World → World → Prop} {S Sp : List α → Prop} {N : Nat} {w0 : World} (hseq : SeqOwn F (n - 1) P gf lb encs Kp S Sp N w0) (hb0 : Below w0.heap.size w0 w)
    (hKt : ∀ {A B C : World}, Kp A B → Kp B C → Kp A C) (hKl : ∀ (W : World) (r r' : Loop), W.heap[w.heap.size + 1]? = some (.loop r) → Kp W (W.putObj (w.heap.size + 1) (.loop r'))) (hps : ∀ x, (encs x).size = ps.size)
    (I : List α → World → Prop) (Ix : Code → List α → World → Prop) (hI : OwnFrom w.heap.size I) (hIx : ∀ c, OwnFrom w.heap.size (Ix c)) (h0 : I [] w) (a₁ : α → Act)
    (hassign : ∀ (l : Nat) (x : α) (W : World) (K : Act → World → Prop), K (a₁ x) W →
      assign.wpIn (F.inRound l) (n - 1 - 1) P (Exit.then K (fun _ _ _ => False)) { tmps := (ps.zip (encs x)).foldl (fun t (p, v) => t.setIfInBounds p v) a.tmps, defers := [] } W)
    (hbody : ∀ (l : Nat) (pre : List α) (x : α) (W : World), I pre W → pre.length < N → body.wpIn (F.inRound l) (n - 1 - 1) P (ownPostG w.heap.size Kp I Ix (pre ++ [x]) W) (a₁ x) W)
    (hdone : ∀ (xs : List α) (W : World), S xs → I xs W → W.heap[w.heap.size]? = some (.deferred (some [])) → Q .normal { a with defers := { target := .collected w.heap.size, args := #[] } :: a.defers } W)
    (hstop : ∀ (c : Code) (pre : List α) (W : World), Sp pre → Ix c pre W → W.heap[w.heap.size]? = some (.deferred (some [])) → c.wpIn F n P Q { a with defers := { target := .collected w.heap.size, args := #[] } :: a.defers } W) :
    (Code.rangeFunc g ps assign body).wpIn F n P Q a w := by
  refine wpIn_rangeFunc fun fn hfn => ?_
  rw [hro]
  let rc : LoopState → Option Code → Loop := fun st pe => { state := st, pending := pe, fn, tmps := a.tmps, params := ps, assign, body, defers := w.heap.size }
  obtain ⟨W1, hW1⟩ : ∃ W1, (w.alloc (.deferred (some []))).alloc (.loop (rc .ready none)) = W1 := ⟨_, rfl⟩
  have hbk : Book w W1 (rc .ready none) := by
    rw [← hW1]
    have e1 := alloc_block (w.alloc (.deferred (some []))) (.loop (rc .ready none))
    rw [World.size_alloc] at e1
    exact ⟨e1, alloc_old (alloc_block w _) _⟩
  have hI1 : I [] W1 := by rw [← hW1]; exact hI.alloc _ (hI.alloc _ h0)
  have hB1 : Below w0.heap.size w0 W1 := by rw [← hW1]; exact hb0.trans ((((Below.refl _ w).alloc (Nat.le_refl _) _).alloc (by simp) _).mono hb0.size)
  have hsz : w.heap.size + 2 ≤ W1.heap.size := by rw [← hW1]; simp
  have turn : ∀ {β : Type} {T : β → World → Prop} {s : β} {W : World} {r : Loop} (r' : Loop), OwnFrom w.heap.size T → T s W → Book w W r → T s (W.putObj (w.heap.size + 1) (.loop r')) := fun r' hT hs hb => hT.putObj _ hs (by omega) hb.book rfl
  refine ⟨w.heap.size + 1, [{ target := .collected w.heap.size, args := #[] }], W1, { target := .fn (.func gf) lb, args := #[.func (.yield (w.heap.size + 1)) #[] #[]] }, W1, gf, #[.func (.yield (w.heap.size + 1)) #[] #[]] ++ lb, W1, ?_, ?_, ?_, ?_, fun _ => h1, ?_⟩
  · rw [← hW1]
    exact run_enterLoop_outer _ _ _ _ _
  · simp only [resolve, hg]
    simp [go_sem]
  · intro f' hf'
    simp [Target.leads] at hf'
    subst hf'
    exact hFg
  · simp [invoke, go_sem, eg]
  refine (hseq (w.heap.size + 1) (fun pre W => I pre W ∧ Book w W (rc .ready none)) (fun pre W => ∃ c, Ix c pre W ∧ Book w W (rc .done (some c))) W1 hB1 ?_ ?_ ?_ ⟨hI1, hbk⟩).mono ?_
  · rintro s A B row ⟨hs, hb⟩ hgr hr
    exact ⟨hI s A B row hs hgr (fun r e => ⟨by have := (hr r e).1; omega, (hr r e).2⟩), Book.own hsz () A B row hb hgr hr⟩
  · rintro s A B row ⟨c, hs, hb⟩ hgr hr
    exact ⟨c, hIx c s A B row hs hgr (fun r e => ⟨by have := (hr r e).1; omega, (hr r e).2⟩), Book.own hsz () A B row hb hgr hr⟩
  · rintro pre x W ⟨hi, hb⟩ hlen
    refine ⟨fn, _, assign, body, run_yield (P := P) (args := encs x) hb.book (hps x), roundIn_of_wpIn hfn (hassign _ x W _ ⟨_, run_beginRound hb.book rfl, ?_⟩)⟩
    have hb2 := hb.put (rc .busy none)
    have hk0 : Kp W (W.putObj (w.heap.size + 1) (.loop (rc .busy none))) := hKl W _ _ hb.book
    refine wpIn_mono (hbody (w.heap.size + 1) pre x _ (turn _ hI hi hb) hlen) ?_
    have leave : ∀ (c : Code) (W3 : World), KeepsFrom w.heap.size (W.putObj (w.heap.size + 1) (.loop (rc .busy none))) W3 → Ix c (pre ++ [x]) W3 →
        ∃ v W4, (Instr.endRound (w.heap.size + 1) (some c)).run P W3 = .ok v W4 ∧ ((v = .bool true ∧ False) ∨ (v = .bool false ∧ (∃ c, Ix c (pre ++ [x]) W4 ∧ Book w W4 (rc .done (some c))) ∧ HeldOn W1.heap.size W W4)) := fun c W3 hk hx => by
      have hb3 := hb2.keeps hk
      refine ⟨_, _, run_endRound (some c) hb3.book, .inr ⟨rfl, ⟨c, turn _ (hIx c) hx hb3, hb3.put _⟩, fun k y hB hy => ?_⟩⟩
      exact (World.putObj_heap_other (by omega)).trans (hk.same k _ (by omega) ((World.putObj_heap_other (by omega)).trans hy) rfl)
    rintro e a3 W3 hp
    cases e with
    | normal =>
      obtain ⟨hk3, hkp, hi3⟩ := hp
      have hb3 := hb2.keeps hk3
      exact ⟨_, _, run_endRound none hb3.book, .inl ⟨rfl, ⟨turn _ hI hi3 hb3, hb3.put _⟩, hKt (hKt hk0 hkp) (hKl _ _ _ hb3.book)⟩⟩
    | ret =>
      obtain ⟨v, W4, e1, h | ⟨rfl, h⟩⟩ := leave .ret W3 hp.1 hp.2
      · exact h.2.elim
      · exact ⟨_, W4, e1, .inr ⟨rfl, h⟩⟩
    | exit id =>
      obtain ⟨v, W4, e1, h | ⟨rfl, h⟩⟩ := leave (.exit id) W3 hp.1 hp.2
      · exact h.2.elim
      · exact ⟨_, W4, e1, .inr ⟨rfl, h⟩⟩
    | goto t =>
      obtain ⟨v, W4, e1, h | ⟨rfl, h⟩⟩ := leave (.goto t) W3 hp.1 hp.2
      · exact h.2.elim
      · exact ⟨_, W4, e1, .inr ⟨rfl, h⟩⟩
    | panic ch => exact hp.elim
    | outgrown => exact hp.elim
  · rintro e W2 ⟨⟨v, rfl⟩, ⟨xs, hS, hi, hb⟩ | ⟨pre, hSp, c, hx, hb⟩⟩
    · exact ⟨none, _, run_endLoop hb.book (by simp [rc]), hdone xs _ hS (turn _ hI hi hb) (hb.put _).held⟩
    · exact ⟨some c, _, run_endLoop hb.book (by simp [rc]), hstop c pre _ hSp (turn _ (hIx c) hx hb) (hb.put _).held⟩
end
end Go.Proofs.YthgkbmfnidehbaaDoor


/-
  A loop over a function, where the body may count on what comes next. No statement of the seat is proved here.
-/
namespace Go.Proofs.YthgkbmfnidehbaaDoor
open Go.RowKit Go.Shelf

section
variable {F : Fence} {n : Nat} {P : Program} {α : Type}

/-- What a function that is ranged over does, asked of the body only where x comes next behind pre, for whatever the caller holds that no turn of a block of the function's own can break. -/
def SeqNext (F : Fence) (n : Nat) (P : Program) (g : Nat) (lb : Array Value) (encs : α → Array Value) (Kp : World → World → Prop) (S Sp : List α → Prop) (N : Nat) (Nx : List α → α → Prop) (w : World) : Prop :=
  ∀ (l : Nat) (J Jx : List α → World → Prop) (W : World), Below w.heap.size w W → OwnFrom W.heap.size J → OwnFrom W.heap.size Jx →
    (∀ pre x W1, J pre W1 → pre.length < N → Nx pre x → YieldAt F (n - 1) P l (encs x) W1 fun e W' => (e = .returned (.bool true) ∧ J (pre ++ [x]) W' ∧ Kp W1 W') ∨ (e = .returned (.bool false) ∧ Jx (pre ++ [x]) W' ∧ HeldOn W.heap.size W1 W')) →
    J [] W → CallsIn F n P g (#[.func (.yield l) #[] #[]] ++ lb) W fun e W' => (∃ v, e = .returned v) ∧ ((∃ xs, S xs ∧ J xs W') ∨ (∃ pre, Sp pre ∧ Jx pre W'))

/-- The loop, where Kp need abide nothing but a turn of the loop's own record. -/
theorem range_next {g : Operand} {ps : Array Tmp} {assign body : Code} {Q : Exit → Act → World → Prop} {a : Act} {w : World} (hro : F.round = none) (h1 : 1 ≤ n) {gf : Nat} {lb : Array Value} (hg : a.eval g = .func (.func gf) #[] lb) (hFg : F.fn gf)
    (eg : ∀ args w, (callFunc gf args).run P w = .ok (.enter gf args) w) {encs : α → Array Value} {Kp : World → World → Prop} {S Sp : List α → Prop} {N : Nat} {Nx : List α → α → Prop} {w0 : World} (hseq : SeqNext F (n - 1) P gf lb encs Kp S Sp N Nx w0) (hb0 : Below w0.heap.size w0 w)
    (hKt : ∀ {A B C : World}, Kp A B → Kp B C → Kp A C) (hKl : ∀ (W : World) (r r' : Loop), W.heap[w.heap.size + 1]? = some (.loop r) → Kp W (W.putObj (w.heap.size + 1) (.loop r'))) (hps : ∀ x, (encs x).size = ps.size)
    (I : List α → World → Prop) (Ix : Code → List α → World → Prop) (hI : OwnFrom w.heap.size I) (hIx : ∀ c, OwnFrom w.heap.size (Ix c)) (h0 : I [] w) (a₁ : α → Act)
    (hassign : ∀ (l : Nat) (x : α) (W : World) (K : Act → World → Prop), K (a₁ x) W →
      assign.wpIn (F.inRound l) (n - 1 - 1) P (Exit.then K (fun _ _ _ => False)) { tmps := (ps.zip (encs x)).foldl (fun t (p, v) => t.setIfInBounds p v) a.tmps, defers := [] } W)
    (hbody : ∀ (l : Nat) (pre : List α) (x : α) (W : World), I pre W → pre.length < N → Nx pre x → body.wpIn (F.inRound l) (n - 1 - 1) P (ownPostG w.heap.size Kp I Ix (pre ++ [x]) W) (a₁ x) W)
    (hdone : ∀ (xs : List α) (W : World), S xs → I xs W → W.heap[w.heap.size]? = some (.deferred (some [])) → Q .normal { a with defers := { target := .collected w.heap.size, args := #[] } :: a.defers } W)
    (hstop : ∀ (c : Code) (pre : List α) (W : World), Sp pre → Ix c pre W → W.heap[w.heap.size]? = some (.deferred (some [])) → c.wpIn F n P Q { a with defers := { target := .collected w.heap.size, args := #[] } :: a.defers } W) :
    (Code.rangeFunc g ps assign body).wpIn F n P Q a w := by
  refine wpIn_rangeFunc fun fn hfn => ?_
  rw [hro]
  let rc : LoopState → Option Code → Loop := fun st pe => { state := st, pending := pe, fn, tmps := a.tmps, params := ps, assign, body, defers := w.heap.size }
  obtain ⟨W1, hW1⟩ : ∃ W1, (w.alloc (.deferred (some []))).alloc (.loop (rc .ready none)) = W1 := ⟨_, rfl⟩
  have hbk : Book w W1 (rc .ready none) := by
    rw [← hW1]
    have e1 := alloc_block (w.alloc (.deferred (some []))) (.loop (rc .ready none))
    rw [World.size_alloc] at e1
    exact ⟨e1, alloc_old (alloc_block w _) _⟩
  have hI1 : I [] W1 := by rw [← hW1]; exact hI.alloc _ (hI.alloc _ h0)
  have hB1 : Below w0.heap.size w0 W1 := by rw [← hW1]; exact hb0.trans ((((Below.refl _ w).alloc (Nat.le_refl _) _).alloc (by simp) _).mono hb0.size)
  have hsz : w.heap.size + 2 ≤ W1.heap.size := by rw [← hW1]; simp
  have turn : ∀ {β : Type} {T : β → World → Prop} {s : β} {W : World} {r : Loop} (r' : Loop), OwnFrom w.heap.size T → T s W → Book w W r → T s (W.putObj (w.heap.size + 1) (.loop r')) := fun r' hT hs hb => hT.putObj _ hs (by omega) hb.book rfl
  refine ⟨w.heap.size + 1, [{ target := .collected w.heap.size, args := #[] }], W1, { target := .fn (.func gf) lb, args := #[.func (.yield (w.heap.size + 1)) #[] #[]] }, W1, gf, #[.func (.yield (w.heap.size + 1)) #[] #[]] ++ lb, W1, ?_, ?_, ?_, ?_, fun _ => h1, ?_⟩
  · rw [← hW1]
    exact run_enterLoop_outer _ _ _ _ _
  · simp only [resolve, hg]
    simp [go_sem]
  · intro f' hf'
    simp [Target.leads] at hf'
    subst hf'
    exact hFg
  · simp [invoke, go_sem, eg]
  refine (hseq (w.heap.size + 1) (fun pre W => I pre W ∧ Book w W (rc .ready none)) (fun pre W => ∃ c, Ix c pre W ∧ Book w W (rc .done (some c))) W1 hB1 ?_ ?_ ?_ ⟨hI1, hbk⟩).mono ?_
  · rintro s A B row ⟨hs, hb⟩ hgr hr
    exact ⟨hI s A B row hs hgr (fun r e => ⟨by have := (hr r e).1; omega, (hr r e).2⟩), Book.own hsz () A B row hb hgr hr⟩
  · rintro s A B row ⟨c, hs, hb⟩ hgr hr
    exact ⟨c, hIx c s A B row hs hgr (fun r e => ⟨by have := (hr r e).1; omega, (hr r e).2⟩), Book.own hsz () A B row hb hgr hr⟩
  · rintro pre x W ⟨hi, hb⟩ hlen hnx
    refine ⟨fn, _, assign, body, run_yield (P := P) (args := encs x) hb.book (hps x), roundIn_of_wpIn hfn (hassign _ x W _ ⟨_, run_beginRound hb.book rfl, ?_⟩)⟩
    have hb2 := hb.put (rc .busy none)
    have hk0 : Kp W (W.putObj (w.heap.size + 1) (.loop (rc .busy none))) := hKl W _ _ hb.book
    refine wpIn_mono (hbody (w.heap.size + 1) pre x _ (turn _ hI hi hb) hlen hnx) ?_
    have leave : ∀ (c : Code) (W3 : World), KeepsFrom w.heap.size (W.putObj (w.heap.size + 1) (.loop (rc .busy none))) W3 → Ix c (pre ++ [x]) W3 →
        ∃ v W4, (Instr.endRound (w.heap.size + 1) (some c)).run P W3 = .ok v W4 ∧ ((v = .bool true ∧ False) ∨ (v = .bool false ∧ (∃ c, Ix c (pre ++ [x]) W4 ∧ Book w W4 (rc .done (some c))) ∧ HeldOn W1.heap.size W W4)) := fun c W3 hk hx => by
      have hb3 := hb2.keeps hk
      refine ⟨_, _, run_endRound (some c) hb3.book, .inr ⟨rfl, ⟨c, turn _ (hIx c) hx hb3, hb3.put _⟩, fun k y hB hy => ?_⟩⟩
      exact (World.putObj_heap_other (by omega)).trans (hk.same k _ (by omega) ((World.putObj_heap_other (by omega)).trans hy) rfl)
    rintro e a3 W3 hp
    cases e with
    | normal =>
      obtain ⟨hk3, hkp, hi3⟩ := hp
      have hb3 := hb2.keeps hk3
      exact ⟨_, _, run_endRound none hb3.book, .inl ⟨rfl, ⟨turn _ hI hi3 hb3, hb3.put _⟩, hKt (hKt hk0 hkp) (hKl _ _ _ hb3.book)⟩⟩
    | ret =>
      obtain ⟨v, W4, e1, h | ⟨rfl, h⟩⟩ := leave .ret W3 hp.1 hp.2
      · exact h.2.elim
      · exact ⟨_, W4, e1, .inr ⟨rfl, h⟩⟩
    | exit id =>
      obtain ⟨v, W4, e1, h | ⟨rfl, h⟩⟩ := leave (.exit id) W3 hp.1 hp.2
      · exact h.2.elim
      · exact ⟨_, W4, e1, .inr ⟨rfl, h⟩⟩
    | goto t =>
      obtain ⟨v, W4, e1, h | ⟨rfl, h⟩⟩ := leave (.goto t) W3 hp.1 hp.2
      · exact h.2.elim
      · exact ⟨_, W4, e1, .inr ⟨rfl, h⟩⟩
    | panic ch => exact hp.elim
    | outgrown => exact hp.elim
  · rintro e W2 ⟨⟨v, rfl⟩, ⟨xs, hS, hi, hb⟩ | ⟨pre, hSp, c, hx, hb⟩⟩
    · exact ⟨none, _, run_endLoop hb.book (by simp [rc]), hdone xs _ hS (turn _ hI hi hb) (hb.put _).held⟩
    · exact ⟨some c, _, run_endLoop hb.book (by simp [rc]), hstop c pre _ hSp (turn _ (hIx c) hx hb) (hb.put _).held⟩
end
end Go.Proofs.YthgkbmfnidehbaaDoor


/-
  A loop over a function whose rounds begin with a variable of their own, which is a new block. No statement of the seat is proved here.
-/
namespace Go.Proofs.YthgkbmfnidehbaaDoor
open Go.RowKit Go.Shelf

section
variable {F : Fence} {n : Nat} {P : Program} {α : Type}

/-- The loop, where a round begins with a variable of its own: a new block. -/
theorem range_new {g : Operand} {ps : Array Tmp} {assign body : Code} {Q : Exit → Act → World → Prop} {a : Act} {w : World} (hro : F.round = none) (h1 : 1 ≤ n) {gf : Nat} {lb : Array Value} (hg : a.eval g = .func (.func gf) #[] lb) (hFg : F.fn gf)
    (eg : ∀ args w, (callFunc gf args).run P w = .ok (.enter gf args) w) {encs : α → Array Value} {Kp : World → World → Prop} {S Sp : List α → Prop} {N : Nat} {Nx : List α → α → Prop} {w0 : World} (hseq : SeqNext F (n - 1) P gf lb encs Kp S Sp N Nx w0) (hb0 : Below w0.heap.size w0 w)
    (hKt : ∀ {A B C : World}, Kp A B → Kp B C → Kp A C) (hKa : ∀ (W : World) (o : Obj), Kp W (W.alloc o)) (hKl : ∀ (W : World) (r r' : Loop), W.heap[w.heap.size + 1]? = some (.loop r) → Kp W (W.putObj (w.heap.size + 1) (.loop r'))) (hps : ∀ x, (encs x).size = ps.size)
    (I : List α → World → Prop) (Ix : Code → List α → World → Prop) (hI : OwnFrom w.heap.size I) (hIx : ∀ c, OwnFrom w.heap.size (Ix c)) (h0 : I [] w) (ob : α → Obj) (a₁ : α → Nat → Act)
    (hassign : ∀ (l : Nat) (x : α) (W : World) (K : Act → World → Prop) (b : Nat), W.heap.size = b → K (a₁ x b) (W.alloc (ob x)) →
      assign.wpIn (F.inRound l) (n - 1 - 1) P (Exit.then K (fun _ _ _ => False)) { tmps := (ps.zip (encs x)).foldl (fun t (p, v) => t.setIfInBounds p v) a.tmps, defers := [] } W)
    (hbody : ∀ (l : Nat) (pre : List α) (x : α) (W : World), I pre W → pre.length < N → Nx pre x → ∀ b, W.heap[b]? = some (ob x) → b + 1 = W.heap.size → w.heap.size + 2 ≤ b → body.wpIn (F.inRound l) (n - 1 - 1) P (ownPostG w.heap.size Kp I Ix (pre ++ [x]) W) (a₁ x b) W)
    (hdone : ∀ (xs : List α) (W : World), S xs → I xs W → W.heap[w.heap.size]? = some (.deferred (some [])) → Q .normal { a with defers := { target := .collected w.heap.size, args := #[] } :: a.defers } W)
    (hstop : ∀ (c : Code) (pre : List α) (W : World), Sp pre → Ix c pre W → W.heap[w.heap.size]? = some (.deferred (some [])) → c.wpIn F n P Q { a with defers := { target := .collected w.heap.size, args := #[] } :: a.defers } W) :
    (Code.rangeFunc g ps assign body).wpIn F n P Q a w := by
  refine wpIn_rangeFunc fun fn hfn => ?_
  rw [hro]
  let rc : LoopState → Option Code → Loop := fun st pe => { state := st, pending := pe, fn, tmps := a.tmps, params := ps, assign, body, defers := w.heap.size }
  obtain ⟨W1, hW1⟩ : ∃ W1, (w.alloc (.deferred (some []))).alloc (.loop (rc .ready none)) = W1 := ⟨_, rfl⟩
  have hbk : Book w W1 (rc .ready none) := by
    rw [← hW1]
    have e1 := alloc_block (w.alloc (.deferred (some []))) (.loop (rc .ready none))
    rw [World.size_alloc] at e1
    exact ⟨e1, alloc_old (alloc_block w _) _⟩
  have hI1 : I [] W1 := by rw [← hW1]; exact hI.alloc _ (hI.alloc _ h0)
  have hB1 : Below w0.heap.size w0 W1 := by rw [← hW1]; exact hb0.trans ((((Below.refl _ w).alloc (Nat.le_refl _) _).alloc (by simp) _).mono hb0.size)
  have hsz : w.heap.size + 2 ≤ W1.heap.size := by rw [← hW1]; simp
  have turn : ∀ {β : Type} {T : β → World → Prop} {s : β} {W : World} {r : Loop} (r' : Loop), OwnFrom w.heap.size T → T s W → Book w W r → T s (W.putObj (w.heap.size + 1) (.loop r')) := fun r' hT hs hb => hT.putObj _ hs (by omega) hb.book rfl
  refine ⟨w.heap.size + 1, [{ target := .collected w.heap.size, args := #[] }], W1, { target := .fn (.func gf) lb, args := #[.func (.yield (w.heap.size + 1)) #[] #[]] }, W1, gf, #[.func (.yield (w.heap.size + 1)) #[] #[]] ++ lb, W1, ?_, ?_, ?_, ?_, fun _ => h1, ?_⟩
  · rw [← hW1]
    exact run_enterLoop_outer _ _ _ _ _
  · simp only [resolve, hg]
    simp [go_sem]
  · intro f' hf'
    simp [Target.leads] at hf'
    subst hf'
    exact hFg
  · simp [invoke, go_sem, eg]
  refine (hseq (w.heap.size + 1) (fun pre W => I pre W ∧ Book w W (rc .ready none)) (fun pre W => ∃ c, Ix c pre W ∧ Book w W (rc .done (some c))) W1 hB1 ?_ ?_ ?_ ⟨hI1, hbk⟩).mono ?_
  · rintro s A B row ⟨hs, hb⟩ hgr hr
    exact ⟨hI s A B row hs hgr (fun r e => ⟨by have := (hr r e).1; omega, (hr r e).2⟩), Book.own hsz () A B row hb hgr hr⟩
  · rintro s A B row ⟨c, hs, hb⟩ hgr hr
    exact ⟨c, hIx c s A B row hs hgr (fun r e => ⟨by have := (hr r e).1; omega, (hr r e).2⟩), Book.own hsz () A B row hb hgr hr⟩
  · rintro pre x W0 ⟨hi0, hb0'⟩ hlen hnx
    have hb : Book w (W0.alloc (ob x)) (rc .ready none) := ⟨alloc_old hb0'.book _, alloc_old hb0'.held _⟩
    have hi := hI.alloc (ob x) hi0
    refine ⟨fn, _, assign, body, run_yield (P := P) (args := encs x) hb0'.book (hps x), roundIn_of_wpIn hfn (hassign _ x W0 _ W0.heap.size rfl ⟨_, run_beginRound hb.book rfl, ?_⟩)⟩
    have hbk0 := (Array.getElem?_eq_some_iff.1 hb0'.book).1
    have hob := alloc_block W0 (ob x)
    have hWs : (W0.alloc (ob x)).heap.size = W0.heap.size + 1 := by simp
    have hold : ∀ (k : Nat) (o : Obj), W0.heap[k]? = some o → (W0.alloc (ob x)).heap[k]? = some o := fun k o h => alloc_old h _
    have hka := hKa W0 (ob x)
    generalize W0.alloc (ob x) = W at hb hi hob hWs hold hka ⊢
    have hb2 := hb.put (rc .busy none)
    have hk0 : Kp W0 (W.putObj (w.heap.size + 1) (.loop (rc .busy none))) := hKt hka (hKl W _ _ hb.book)
    refine wpIn_mono (hbody (w.heap.size + 1) pre x _ (turn _ hI hi hb) hlen hnx W0.heap.size ((World.putObj_heap_other (by omega)).trans hob) (by simp [World.putObj]; omega) (by omega)) ?_
    have leave : ∀ (c : Code) (W3 : World), KeepsFrom w.heap.size (W.putObj (w.heap.size + 1) (.loop (rc .busy none))) W3 → Ix c (pre ++ [x]) W3 →
        ∃ v W4, (Instr.endRound (w.heap.size + 1) (some c)).run P W3 = .ok v W4 ∧ ((v = .bool true ∧ False) ∨ (v = .bool false ∧ (∃ c, Ix c (pre ++ [x]) W4 ∧ Book w W4 (rc .done (some c))) ∧ HeldOn W1.heap.size W0 W4)) := fun c W3 hk hx => by
      have hb3 := hb2.keeps hk
      refine ⟨_, _, run_endRound (some c) hb3.book, .inr ⟨rfl, ⟨c, turn _ (hIx c) hx hb3, hb3.put _⟩, fun k y hB hy => ?_⟩⟩
      exact (World.putObj_heap_other (by omega)).trans (hk.same k _ (by omega) ((World.putObj_heap_other (by omega)).trans (hold k _ hy)) rfl)
    rintro e a3 W3 hp
    cases e with
    | normal =>
      obtain ⟨hk3, hkp, hi3⟩ := hp
      have hb3 := hb2.keeps hk3
      exact ⟨_, _, run_endRound none hb3.book, .inl ⟨rfl, ⟨turn _ hI hi3 hb3, hb3.put _⟩, hKt (hKt hk0 hkp) (hKl _ _ _ hb3.book)⟩⟩
    | ret =>
      obtain ⟨v, W4, e1, h | ⟨rfl, h⟩⟩ := leave .ret W3 hp.1 hp.2
      · exact h.2.elim
      · exact ⟨_, W4, e1, .inr ⟨rfl, h⟩⟩
    | exit id =>
      obtain ⟨v, W4, e1, h | ⟨rfl, h⟩⟩ := leave (.exit id) W3 hp.1 hp.2
      · exact h.2.elim
      · exact ⟨_, W4, e1, .inr ⟨rfl, h⟩⟩
    | goto t =>
      obtain ⟨v, W4, e1, h | ⟨rfl, h⟩⟩ := leave (.goto t) W3 hp.1 hp.2
      · exact h.2.elim
      · exact ⟨_, W4, e1, .inr ⟨rfl, h⟩⟩
    | panic ch => exact hp.elim
    | outgrown => exact hp.elim
  · rintro e W2 ⟨⟨v, rfl⟩, ⟨xs, hS, hi, hb⟩ | ⟨pre, hSp, c, hx, hb⟩⟩
    · exact ⟨none, _, run_endLoop hb.book (by simp [rc]), hdone xs _ hS (turn _ hI hi hb) (hb.put _).held⟩
    · exact ⟨some c, _, run_endLoop hb.book (by simp [rc]), hstop c pre _ hSp (turn _ (hIx c) hx hb) (hb.put _).held⟩
end
end Go.Proofs.YthgkbmfnidehbaaDoor
