/-
  No statement of the seat is proved here. (Several texts in one: AxD.)
-/
import Derived.Test.YtppejcfghlpbjaaGreatDoorM12AxA

/- Walk of the document's ReadScript (package parleyref09). No statement of the seat is proved here. -/
namespace Go.Proofs.YtppejcfghlpbjaaGreatDoor
open Go.RowKit Go.Shelf

def sc0 : Sc := ⟨0, [], [], []⟩
theorem lineS_cells {x : Sc} {s : List UInt8} {c : Nat} (h : wordsM m63 cellsW s = some [c]) : lineS 0 x s = some (1, { x with cells := c }) := by simp [lineS, h]
theorem lineS_cells_no {x : Sc} {s : List UInt8} (h : ∀ c, wordsM m63 cellsW s ≠ some [c]) : lineS 0 x s = none := by
  unfold lineS
  rw [if_pos rfl]
  cases hw : wordsM m63 cellsW s with
  | none => simp
  | some L =>
    cases L with
    | nil => simp
    | cons c r =>
      cases r with
      | nil => exact absurd hw (h c)
      | cons d r => simp
theorem lineS_first {x : Sc} {s : List UInt8} {L : List Nat} (h : wordsM m64 firstW s = some L) : lineS 1 x s = some (2, { x with first := L }) := by simp [lineS, h]
theorem lineS_thread {st : Nat} {x : Sc} {s : List UInt8} (h0 : 1 ≤ st ∧ st ≤ 3) (h1 : st = 1 → wordsM m64 firstW s = none) (h : s = threadW) : lineS st x s = some (3, { x with progs := x.progs ++ [[]] }) := by
  have : (if st = 1 then wordsM m64 firstW s else none) = none := by split; exact h1 (by assumption); rfl
  unfold lineS
  rw [if_neg (by omega), this]
  simp [h0, h]
theorem lineS_picks {st : Nat} {x : Sc} {s : List UInt8} {L : List Nat} (h0 : 1 ≤ st ∧ st ≤ 3) (h1 : st = 1 → wordsM m64 firstW s = none) (h : s ≠ threadW) (hL : wordsM m32 picksW s = some L) : lineS st x s = some (4, { x with picks := x.picks ++ L }) := by
  have : (if st = 1 then wordsM m64 firstW s else none) = none := by split; exact h1 (by assumption); rfl
  unfold lineS
  rw [if_neg (by omega), this]
  simp [h0, h, hL]
theorem lineS_ins {x : Sc} {s : List UInt8} {i : I5} (h : s ≠ threadW) (hL : wordsM m32 picksW s = none) (hi : parseL s = some i) : lineS 3 x s = some (3, { x with progs := lastPush x.progs i }) := by simp [lineS, h, hL, hi]
theorem lineS_no {st : Nat} {x : Sc} {s : List UInt8} (h0 : 1 ≤ st) (h1 : st = 1 → wordsM m64 firstW s = none) (h : s ≠ threadW ∨ 4 ≤ st) (hL : wordsM m32 picksW s = none ∨ 4 ≤ st) (hi : st = 3 → parseL s = none) : lineS st x s = none := by
  have e1 : (if st = 1 then wordsM m64 firstW s else none) = none := by split; exact h1 (by assumption); rfl
  unfold lineS
  rw [if_neg (by omega), e1]
  dsimp only
  rw [if_neg (by rintro ⟨_, q, r⟩; rcases h with h | h; exact h r; omega)]
  have e2 : (if 1 ≤ st ∧ st ≤ 3 then wordsM m32 picksW s else none) = none := by
    split
    · rename_i q; rcases hL with hL | hL; exact hL; omega
    · rfl
  rw [e2]
  dsimp only
  split
  · rw [hi (by assumption)]; rfl
  · rfl
theorem numM_le {most : Nat} {x : List UInt8} {n : Nat} (h : numM most x = some n) : n ≤ most := by
  unfold numM at h
  cases hd : decL x with
  | none => rw [hd] at h; cases h
  | some m =>
    rw [hd, Option.bind_some] at h
    split at h
    · cases h; assumption
    · cases h
theorem wordsM_le {most : Nat} {word s : List UInt8} {L : List Nat} (h : wordsM most word s = some L) : ∀ n ∈ L, n ≤ most := by
  have ha : ∀ (P : List (List UInt8)) (L : List Nat), allM most P = some L → ∀ n ∈ L, n ≤ most := by
    intro P
    induction P with
    | nil => intro L h; simp [allM] at h; subst h; simp
    | cons x P ih =>
      intro L h
      rw [allM] at h
      cases hn : numM most x with
      | none => rw [hn] at h; cases h
      | some n =>
        rw [hn, Option.bind_some, Option.map_eq_some_iff] at h
        obtain ⟨M, hM, rfl⟩ := h
        intro k hk
        rcases List.mem_cons.1 hk with rfl | hk
        · exact numM_le hn
        · exact ih M hM k hk
  unfold wordsM at h
  split at h
  · cases hd : s.drop word.length with
    | nil => rw [hd] at h; simp [numsG] at h; subst h; simp
    | cons c r =>
      rw [hd, numsG] at h
      split at h
      · exact ha _ _ h
      · cases h
  · cases h
theorem lastPush_len (ps : List (List I5)) (i : I5) : ∀ p ∈ lastPush ps i, ∃ q ∈ ps, p.length ≤ q.length + 1 := by
  intro p hp
  obtain ⟨j, hj, rfl⟩ := List.getElem_of_mem hp
  have hj' : j < ps.length := by simpa [lastPush] using hj
  refine ⟨ps[j], List.getElem_mem hj', ?_⟩
  show ((ps.modify (ps.length - 1) (· ++ [i]))[j]'(by simpa [lastPush] using hj)).length ≤ _
  rw [List.getElem_modify]
  split <;> simp
theorem run_load_opS {P : Program} {o : Oper} {a : Act} {w : World} {x : Operand} {ty : TypeId} (ho : o.op = .load ty x) (g : Nat) (hx : a.eval x = .pointer (some ⟨g, 0, none⟩)) (t : TypeId) (cs : Array Value) (fr : Nat × Nat) (d : TypeDesc) (hg : w.heap[g]? = some (.cells cs t fr))
    (hu : P.underlying ty = some d) (hd : (match d with | .struct _ | .array _ _ => true | _ => false) = true) (hi : (P.info? ty).map (·.size) = some cs.size) : (execOp a.eval o).run P w = .ok (.value (.agg cs)) w := by
  unfold execOp
  simp only [ho, hx, Instr.loadAt, Instr.sureAddr, Sem.run_bind, Sem.run_pure, Result.andThen_ok, run_loadVar_row w g t ty cs fr d hg hu hd hi]
theorem own_typed {W : World} {base size : Nat} {e : TypeId} {v : Value} {n : Nat} {xs : List Value} (h : W.ownsRow base e size v n xs) {g : Nat} (hg : v.ownBlock = some g) : ∃ cur, W.heap[g]? = some (.cells cur e (0, 0)) := by
  rcases h.2 with ⟨rfl, _⟩ | ⟨g', cap, cur, rfl, _, h2, _⟩
  · cases hg
  · cases hg; exact ⟨cur, h2⟩
theorem no_script {W : World} {base size n b : Nat} {e : TypeId} {v : Value} {xs : List Value} (he : e ≠ 26) (h : W.ownsRow base e size v n xs) {c : Array Value} (hz : W.heap[b]? = some (.cells c 26 (0, 0))) : v.ownBlock ≠ some b := fun eb => by
  obtain ⟨cur, hc⟩ := own_typed h eb
  rw [hz] at hc
  simp only [Option.some.injEq, Obj.cells.injEq] at hc
  exact he hc.2.1.symm
theorem setRow_keepsS {w : World} {a : Nat} (cs : Array Value) : Keeps (fun q => q = a) w (w.setRow a cs) :=
  ⟨rfl, rfl, rfl, by simp [World.setRow], fun k _ hk => by simp [World.setRow, Array.getElem?_modify, show ¬ a = k from fun e => hk e.symm]⟩
/-- The result's block is none of the script's. -/
theorem Sx.res {W : World} {base gx b : Nat} {vf vp vk : Value} {ps : List Value} {x : Sc} (h : Sx W base gx vf vp vk ps x) {c : Array Value} (hz : W.heap[b]? = some (.cells c 26 (0, 0))) (hb : gx ≠ b) (cs : Array Value) : Sx (W.setRow b cs) base gx vf vp vk ps x := by
  have ks := setRow_keepsS (w := W) (a := b) cs
  have no : ∀ {e : TypeId} {size n : Nat} {v : Value} {xs : List Value}, e ≠ 26 → W.ownsRow base e size v n xs → ∀ g, v.ownBlock = some g → ¬ g = b := fun he hv g eg f => by
    subst f
    obtain ⟨cur, hc⟩ := own_typed hv eg
    rw [hz] at hc
    simp only [Option.some.injEq, Obj.cells.injEq] at hc
    exact he hc.2.1.symm
  exact ⟨(ks.block gx (lt_of_block h.box) hb).trans h.box, h.first.keeps ks (no (by decide) h.first.own), own_keeps h.progs ks (no (by decide) h.progs), h.plen, fun j h1 h2 => (h.each j h1 h2).keeps ks (no (by decide) (h.each j h1 h2).own), ⟨own_keeps h.picks.own ks (no (by decide) h.picks.own), Nat.le_trans h.picks.base ks.size⟩, h.wf, h.mark⟩
/-- What ReadScript answers. -/
def RSPost (s : List UInt8) (w : World) (e : Ending) (w' : World) : Prop := match readS 0 sc0 0 (linesL s) with
  | (n, some x) => ∃ gx vf vp vk ps, e = .returned (.tuple #[.agg #[.int .i64 (x.cells : Int), vf, vp, vk], .int .i64 (n : Int), .bool true]) ∧ Sx w' w.heap.size gx vf vp vk ps x
  | (n, none) => e = .returned (.tuple #[.agg #[.int .i64 0, .slice none 0 0, .slice none 0 0, .slice none 0 0], .int .i64 (n : Int), .bool false])
/-- The two answers of words as one. -/
theorem words_one {most : Nat} {word s : List UInt8} {w w' : World} {e : Ending} (h : WPost most word s w e w') (k : Keeps (fun _ => False) w w') : ∃ va vc, e = .returned (.tuple #[.slice va ((wordsM most word s).getD []).length vc, .bool (wordsM most word s).isSome]) ∧ Nums w' w.heap.size (.slice va ((wordsM most word s).getD []).length vc) ((wordsM most word s).getD []) := by
  unfold WPost at h
  cases hw : wordsM most word s with
  | none =>
    rw [hw] at h
    exact ⟨none, 0, h, ⟨⟨rfl, .inl ⟨rfl, rfl⟩⟩, k.size⟩⟩
  | some L =>
    rw [hw] at h
    obtain ⟨v, h1, h2⟩ := h
    rcases h2.own.2 with ⟨rfl, q⟩ | ⟨g, cap, cur, rfl, q⟩
    · simp only [Option.getD_some, Option.isSome_some]
      exact ⟨none, 0, by rw [h1, q], by rw [q]; exact h2⟩
    · exact ⟨_, cap, h1, h2⟩
theorem one_one {s : List UInt8} {e : Ending} (h : O9Post s e) : ∃ i : I5, e = .returned (.tuple #[.agg i.cells, .bool (parseL s).isSome]) ∧ ∀ j, parseL s = some j → i = j := by
  unfold O9Post at h
  cases hp : parseL s with
  | none => rw [hp] at h; exact ⟨⟨0, 0, 0, 0, 0⟩, h, fun j q => by cases q⟩
  | some i => rw [hp] at h; exact ⟨i, h, fun j q => by cases q; rfl⟩
theorem getD_some' {α : Type} {o : Option (List α)} (h : o.isSome = true) : o = some (o.getD []) := by
  cases o with
  | none => cases h
  | some L => rfl
theorem isSome_no {α : Type} {o : Option α} (h : o.isSome = false) : o = none := by
  cases o with
  | none => rfl
  | some L => cases h
theorem wordsM_len {most : Nat} {word s : List UInt8} {L : List Nat} (h : wordsM most word s = some L) : L.length ≤ s.length := by
  have hp : ∀ (l : List UInt8), (pcs l).length ≤ l.length + 1 := by
    intro l
    induction l with
    | nil => simp [pcs]
    | cons c t ih =>
      rw [pcs]
      split
      · simp; omega
      · cases hq : pcs t with
        | nil => exact absurd hq (pcs_ne t)
        | cons a b => rw [hq] at ih; simp at ih ⊢; omega
  have ha : ∀ (P : List (List UInt8)) (L : List Nat), allM most P = some L → L.length = P.length := by
    intro P
    induction P with
    | nil => intro L h; simp [allM] at h; subst h; rfl
    | cons x P ih =>
      intro L h
      rw [allM] at h
      cases hn : numM most x with
      | none => rw [hn] at h; cases h
      | some n =>
        rw [hn, Option.bind_some, Option.map_eq_some_iff] at h
        obtain ⟨M, hM, rfl⟩ := h
        simp [ih M hM]
  unfold wordsM at h
  split at h
  · rename_i hc
    cases hd : s.drop word.length with
    | nil => rw [hd] at h; simp [numsG] at h; subst h; simp
    | cons c r =>
      rw [hd, numsG] at h
      split at h
      · have h1 := ha _ _ h
        have h2 := hp r
        have h3 := congrArg List.length hd
        rw [List.length_drop] at h3
        simp at h3
        omega
      · cases h
  · cases h
/-- What stands ahead of a line. -/
structure RSt (s : List UInt8) (w : World) (gx : Nat) (vf vp vk : Value) (ps : List Value) (x : Sc) (st n f : Nat) (W : World) : Prop where
  rows : Sx W w.heap.size gx vf vp vk ps x
  zero : W.heap[w.heap.size]? = some (.cells #[.int .i64 0, .slice none 0 0, .slice none 0 0, .slice none 0 0] 26 (0, 0))
  kept : Keeps (fun _ => False) w W
  reads : readS 0 sc0 0 (linesL s) = readS st x n (linesL (s.drop f))
  nprogs : x.progs.length ≤ n
  each : ∀ p ∈ x.progs, p.length ≤ n
  npicks : x.picks.length ≤ f
  three : st = 3 → x.progs ≠ []
theorem results_cell_tmp2s {fn : Func} {p u v : Tmp} {ty : TypeId} (h : fn.results = #[.cell p ty, .tmp u, .tmp v]) (tmps : Array Value) (P : Program) (w : World) :
    (results fn tmps).run P w = ((asAddr (tmps.getD p undef)).run P w).andThen fun a w₁ => ((loadVar ty a).run P w₁).andThen fun x w₂ => .ok (.tuple #[x, tmps.getD u undef, tmps.getD v undef]) w₂ := by
  simp only [results, h]
  simp [Sem.run_bind, Result.andThen]
theorem size_scr : (Tryz.prog.info? 26).map (·.size) = some 4 := by kernel_rfl
theorem scr_ret3 {fn : Func} {p u v : Tmp} (h : fn.results = #[.cell p 26, .tmp u, .tmp v]) (tmps : Array Value) (w : World) (b : Nat) (old cs : Array Value) (hb : w.heap[b]? = some (.cells old 26 (0, 0))) (hs : cs.size = 4)
    (hp : tmps.getD p undef = .pointer (some ⟨b, 0, none⟩)) : (results fn tmps).run Tryz.prog (w.setRow b cs) = .ok (.tuple #[.agg cs, tmps.getD u undef, tmps.getD v undef]) (w.setRow b cs) := by
  rw [results_cell_tmp2s h, hp]
  simp [asAddr, run_loadVar_row (w.setRow b cs) b 26 26 cs (0, 0) _ (setRow_heap w b old cs _ _ hb) Tryz.underlying26 rfl (by rw [size_scr, hs]), Result.andThen]

set_option maxRecDepth 100000 in
set_option maxHeartbeats 40000000 in
theorem rreadS_any (s : List UInt8) (hs : s.length ≤ 20000) (w : World) : Calls Tryz.prog 13 #[.string ⟨s.toArray⟩] w fun e w' => RSPost s w e w' ∧ Keeps (fun _ => False) w w' := by
  have hmx : Tryz.prog.follows .mixedOrders = true := by kernel_rfl
  have hsz := size_of s
  have HBAD : Hid (∀ (n : Nat) W, readS 0 sc0 0 (linesL s) = (n, none) → RSPost s w (.returned (.tuple #[.agg #[.int .i64 0, .slice none 0 0, .slice none 0 0, .slice none 0 0], .int .i64 (n : Int), .bool false])) W) := fun n W q => by unfold RSPost; rw [q]
  have HOK : Hid (∀ (n : Nat) x gx vf vp vk ps W, readS 0 sc0 0 (linesL s) = (n, some x) → Sx W w.heap.size gx vf vp vk ps x → RSPost s w (.returned (.tuple #[.agg #[.int .i64 (x.cells : Int), vf, vp, vk], .int .i64 (n : Int), .bool true])) W) := fun n x gx vf vp vk ps W q h => by unfold RSPost; rw [q]; exact ⟨gx, vf, vp, vk, ps, rfl, h⟩
  have N63 : Hid (∀ (x : List UInt8) (X : World), x.length ≤ 140737488355328 → Calls Tryz.prog 49 #[.string ⟨x.toArray⟩, .int .u64 9223372036854775807] X fun e w' => NumPost m63 x e ∧ w' = X) := fun x X h => rnumber_any m63 (by decide) (by decide) x h X
  have N64 : Hid (∀ (x : List UInt8) (X : World), x.length ≤ 140737488355328 → Calls Tryz.prog 49 #[.string ⟨x.toArray⟩, .int .u64 18446744073709551615] X fun e w' => NumPost m64 x e ∧ w' = X) := fun x X h => rnumber_any m64 (by decide) (by decide) x h X
  have N32 : Hid (∀ (x : List UInt8) (X : World), x.length ≤ 140737488355328 → Calls Tryz.prog 49 #[.string ⟨x.toArray⟩, .int .u64 4294967295] X fun e w' => NumPost m32 x e ∧ w' = X) := fun x X h => rnumber_any m32 (by decide) (by decide) x h X
  have HW1 : Hid (∀ ln X, ln.length ≤ 20000 → Calls Tryz.prog 29 #[.string ⟨ln.toArray⟩, .string ⟨#[99, 101, 108, 108, 115]⟩, .int .u64 9223372036854775807] X fun e w' => WPost m63 cellsW ln X e w' ∧ Keeps (fun _ => False) X w') := fun ln X h => rwords_any m63 _ N63 cellsW ln h (by decide) X
  have HW2 : Hid (∀ ln X, ln.length ≤ 20000 → Calls Tryz.prog 29 #[.string ⟨ln.toArray⟩, .string ⟨#[102, 105, 114, 115, 116]⟩, .int .u64 18446744073709551615] X fun e w' => WPost m64 firstW ln X e w' ∧ Keeps (fun _ => False) X w') := fun ln X h => rwords_any m64 _ N64 firstW ln h (by decide) X
  have HW3 : Hid (∀ ln X, ln.length ≤ 20000 → Calls Tryz.prog 29 #[.string ⟨ln.toArray⟩, .string ⟨#[112, 105, 99, 107, 115]⟩, .int .u64 4294967295] X fun e w' => WPost m32 picksW ln X e w' ∧ Keeps (fun _ => False) X w') := fun ln X h => rwords_any m32 _ N32 picksW ln h (by decide) X
  clear N63 N64 N32
  obtain ⟨gx, hgx⟩ : ∃ g, g = w.heap.size + 1 := ⟨_, rfl⟩
  have kA := (Keeps.refl (fun _ => False) w).alloc (.cells #[.int .i64 0, .slice none 0 0, .slice none 0 0, .slice none 0 0] 26)
  have bA := alloc_block w (.cells #[.int .i64 0, .slice none 0 0, .slice none 0 0, .slice none 0 0] 26)
  have kB := kA.alloc (.cells #[.int .i64 0, .slice none 0 0, .slice none 0 0, .slice none 0 0] 26)
  have bB := heap_two w (.cells #[.int .i64 0, .slice none 0 0, .slice none 0 0, .slice none 0 0] 26) (.cells #[.int .i64 0, .slice none 0 0, .slice none 0 0, .slice none 0 0] 26)
  have bA2 := ((MapKept.heap_alloc (w.alloc (.cells #[.int .i64 0, .slice none 0 0, .slice none 0 0, .slice none 0 0] 26)) (.cells #[.int .i64 0, .slice none 0 0, .slice none 0 0, .slice none 0 0] 26)).2 _ (lt_of_block bA)).trans bA
  obtain ⟨W0, hW0⟩ : ∃ W, W = (w.alloc (.cells #[.int .i64 0, .slice none 0 0, .slice none 0 0, .slice none 0 0] 26)).alloc (.cells #[.int .i64 0, .slice none 0 0, .slice none 0 0, .slice none 0 0] 26) := ⟨_, rfl⟩
  rw [← hW0] at kB bB bA2
  have ST : Hid (RSt s w (w.heap.size + 1) (.slice none 0 0) (.slice none 0 0) (.slice none 0 0) [] sc0 0 0 0 W0) :=
    ⟨⟨bB, ⟨⟨rfl, .inl ⟨rfl, rfl⟩⟩, kB.size⟩, ⟨rfl, .inl ⟨rfl, rfl⟩⟩, rfl, fun k h1 => by simp at h1, ⟨⟨rfl, .inl ⟨rfl, rfl⟩⟩, kB.size⟩, by simp [sc0], ⟨fun _ => 0, rfl, fun g e => (by cases e), fun g e => (by cases e), fun g e => (by cases e), fun k h => absurd h (by simp)⟩⟩, bA2, kB, by simp, by simp [sc0], by simp [sc0], by simp [sc0], by simp⟩
  have HWW : Hid (W0 = (w.alloc (.cells #[.int .i64 0, .slice none 0 0, .slice none 0 0, .slice none 0 0] 26)).alloc (.cells #[.int .i64 0, .slice none 0 0, .slice none 0 0, .slice none 0 0] 26)) := hW0
  clear kA bA kB bB bA2 hW0
  go_enter Tryz.func13, Tryz.ntmps13
  go_wp2_with fail
  rw [← HWW.out]
  clear HWW
  rw [← hgx] at ST ⊢
  have HGX : Hid (gx = w.heap.size + 1) := hgx
  clear hgx
  go_loopw [6, 7, 8] (fun a6 a7 a8 wr => ∃ (st n f : Nat) (vf vp vk : Value) (ps : List Value) (x : Sc), a6 = .int .i64 (st : Int) ∧ a7 = .int .i64 (n : Int) ∧ a8 = .int .i64 (f : Int) ∧ st ≤ 4 ∧ f ≤ s.length + 1 ∧ n ≤ f ∧ Hid (RSt s w gx vf vp vk ps x st n f wr)) (fun _ _ a8 _ => s.length + 1 - (intOf a8).toNat)
  case atStart => exact ⟨0, 0, 0, _, _, _, [], sc0, rfl, rfl, rfl, by omega, by omega, by omega, ST⟩
  case round =>
    obtain ⟨st, n, f, vf, vp, vk, ps, x, rfl, rfl, rfl, hst, hf, hnf, hh⟩ := hrel
    clear ST
    by_cases hlt : f < s.length
    · have hfi : (f : Int) < s.length := by omega
      clear HOK
      go_wp2_with fail
      refine Code.wp_mono (Q := fun ex a' w' => ex = Exit.exit 2 ∧ (∃ u3 : Value, ∃ u4 : Value, ∃ u9 : Value, ∃ u10 : Value, ∃ u11 : Value, ∃ u12 : Value, ∃ u13 : Value, ∃ u14 : Value, ∃ u15 : Value, ∃ u16 : Value, ∃ u17 : Value, ∃ u18 : Value, ∃ u19 : Value, ∃ u20 : Value, ∃ u21 : Value, ∃ u22 : Value, ∃ u23 : Value, ∃ u24 : Value, ∃ u25 : Value, ∃ u26 : Value, ∃ u27 : Value, ∃ u28 : Value, ∃ u29 : Value, ∃ u30 : Value, ∃ u31 : Value, ∃ u32 : Value, ∃ u33 : Value, ∃ u34 : Value, ∃ u35 : Value, ∃ u36 : Value, ∃ u37 : Value, ∃ u38 : Value, ∃ u39 : Value, ∃ u40 : Value, ∃ u41 : Value, ∃ u42 : Value, ∃ u43 : Value, ∃ u44 : Value, ∃ u45 : Value, ∃ u46 : Value, ∃ u47 : Value, ∃ u48 : Value, ∃ u49 : Value, ∃ u50 : Value, ∃ u51 : Value, ∃ u52 : Value, ∃ u53 : Value, ∃ u54 : Value, ∃ u55 : Value, ∃ u56 : Value, ∃ u57 : Value, ∃ u58 : Value, ∃ u59 : Value, ∃ u60 : Value, ∃ u61 : Value, ∃ u62 : Value, ∃ u63 : Value, ∃ u64 : Value, ∃ u65 : Value, ∃ u66 : Value, ∃ u67 : Value, ∃ u68 : Value, ∃ u69 : Value, ∃ u70 : Value, ∃ u71 : Value, ∃ u72 : Value, ∃ u73 : Value, ∃ u74 : Value, ∃ u75 : Value, ∃ u76 : Value, ∃ u77 : Value, ∃ u78 : Value, ∃ u79 : Value, ∃ u80 : Value, ∃ u81 : Value, ∃ u82 : Value, ∃ u83 : Value, ∃ u84 : Value, ∃ u85 : Value, ∃ u86 : Value, ∃ u87 : Value, ∃ u88 : Value, ∃ u89 : Value, ∃ u90 : Value, ∃ u91 : Value, ∃ u92 : Value, ∃ u93 : Value, ∃ u94 : Value, ∃ u95 : Value, ∃ u96 : Value, ∃ u97 : Value, ∃ u98 : Value, ∃ u99 : Value, ∃ u100 : Value, ∃ u101 : Value, ∃ u102 : Value, ∃ u103 : Value, ∃ u104 : Value, ∃ u105 : Value, ∃ u106 : Value, ∃ u107 : Value, ∃ u108 : Value, ∃ u109 : Value, ∃ u110 : Value, ∃ u111 : Value, ∃ u112 : Value, ∃ u113 : Value, ∃ u114 : Value, ∃ u115 : Value, ∃ u116 : Value, ∃ u117 : Value, ∃ u118 : Value, ∃ u119 : Value, ∃ u120 : Value, ∃ u121 : Value, ∃ u122 : Value, ∃ u123 : Value, ∃ u124 : Value, ∃ u125 : Value, ∃ u126 : Value, ∃ u127 : Value, ∃ u128 : Value, ∃ u129 : Value, ∃ u130 : Value, ∃ u131 : Value, ∃ u132 : Value, ∃ u133 : Value, ∃ u134 : Value, ∃ u135 : Value, ∃ u136 : Value, ∃ u137 : Value, ∃ u138 : Value, ∃ u139 : Value, ∃ u140 : Value, ∃ u141 : Value, ∃ u142 : Value, ∃ u143 : Value, ∃ u144 : Value, ∃ u145 : Value, ∃ u146 : Value, ∃ u147 : Value, ∃ u148 : Value, ∃ u149 : Value, ∃ u150 : Value, ∃ u151 : Value, ∃ u152 : Value, ∃ u153 : Value, ∃ u154 : Value, ∃ u155 : Value, ∃ u156 : Value, ∃ u157 : Value, ∃ u158 : Value, ∃ u159 : Value, ∃ u160 : Value, ∃ u161 : Value, ∃ u162 : Value, (∃ t : Nat, u9 = .int .i64 (t : Int) ∧ f ≤ t ∧ t ≤ s.length ∧ wr = w' ∧ Hid (∀ j (hj : j < s.length), f ≤ j → j < t → s[j] ≠ 10) ∧ Hid (∀ h : t < s.length, s[t] = 10)) ∧ a' = ⟨#[.string ⟨s.toArray⟩, undef, .pointer (some ⟨w.heap.size, 0, none⟩), u3, u4, .pointer (some ⟨gx, 0, none⟩), .int .i64 (st : Int), .int .i64 (n : Int), .int .i64 (f : Int), u9, u10, u11, u12, u13, u14, u15, u16, u17, u18, u19, u20, u21, u22, u23, u24, u25, u26, u27, u28, u29, u30, u31, u32, u33, u34, u35, u36, u37, u38, u39, u40, u41, u42, u43, u44, u45, u46, u47, u48, u49, u50, u51, u52, u53, u54, u55, u56, u57, u58, u59, u60, u61, u62, u63, u64, u65, u66, u67, u68, u69, u70, u71, u72, u73, u74, u75, u76, u77, u78, u79, u80, u81, u82, u83, u84, u85, u86, u87, u88, u89, u90, u91, u92, u93, u94, u95, u96, u97, u98, u99, u100, u101, u102, u103, u104, u105, u106, u107, u108, u109, u110, u111, u112, u113, u114, u115, u116, u117, u118, u119, u120, u121, u122, u123, u124, u125, u126, u127, u128, u129, u130, u131, u132, u133, u134, u135, u136, u137, u138, u139, u140, u141, u142, u143, u144, u145, u146, u147, u148, u149, u150, u151, u152, u153, u154, u155, u156, u157, u158, u159, u160, u161, u162, undef, undef, undef, undef, undef, undef], []⟩)) ?_ ?_
      · rintro ex a' w' ⟨rfl, hj⟩
        obtain ⟨u3, hj⟩ := hj
        obtain ⟨u4, hj⟩ := hj
        obtain ⟨u9, hj⟩ := hj
        obtain ⟨u10, hj⟩ := hj
        obtain ⟨u11, hj⟩ := hj
        obtain ⟨u12, hj⟩ := hj
        obtain ⟨u13, hj⟩ := hj
        obtain ⟨u14, hj⟩ := hj
        obtain ⟨u15, hj⟩ := hj
        obtain ⟨u16, hj⟩ := hj
        obtain ⟨u17, hj⟩ := hj
        obtain ⟨u18, hj⟩ := hj
        obtain ⟨u19, hj⟩ := hj
        obtain ⟨u20, hj⟩ := hj
        obtain ⟨u21, hj⟩ := hj
        obtain ⟨u22, hj⟩ := hj
        obtain ⟨u23, hj⟩ := hj
        obtain ⟨u24, hj⟩ := hj
        obtain ⟨u25, hj⟩ := hj
        obtain ⟨u26, hj⟩ := hj
        obtain ⟨u27, hj⟩ := hj
        obtain ⟨u28, hj⟩ := hj
        obtain ⟨u29, hj⟩ := hj
        obtain ⟨u30, hj⟩ := hj
        obtain ⟨u31, hj⟩ := hj
        obtain ⟨u32, hj⟩ := hj
        obtain ⟨u33, hj⟩ := hj
        obtain ⟨u34, hj⟩ := hj
        obtain ⟨u35, hj⟩ := hj
        obtain ⟨u36, hj⟩ := hj
        obtain ⟨u37, hj⟩ := hj
        obtain ⟨u38, hj⟩ := hj
        obtain ⟨u39, hj⟩ := hj
        obtain ⟨u40, hj⟩ := hj
        obtain ⟨u41, hj⟩ := hj
        obtain ⟨u42, hj⟩ := hj
        obtain ⟨u43, hj⟩ := hj
        obtain ⟨u44, hj⟩ := hj
        obtain ⟨u45, hj⟩ := hj
        obtain ⟨u46, hj⟩ := hj
        obtain ⟨u47, hj⟩ := hj
        obtain ⟨u48, hj⟩ := hj
        obtain ⟨u49, hj⟩ := hj
        obtain ⟨u50, hj⟩ := hj
        obtain ⟨u51, hj⟩ := hj
        obtain ⟨u52, hj⟩ := hj
        obtain ⟨u53, hj⟩ := hj
        obtain ⟨u54, hj⟩ := hj
        obtain ⟨u55, hj⟩ := hj
        obtain ⟨u56, hj⟩ := hj
        obtain ⟨u57, hj⟩ := hj
        obtain ⟨u58, hj⟩ := hj
        obtain ⟨u59, hj⟩ := hj
        obtain ⟨u60, hj⟩ := hj
        obtain ⟨u61, hj⟩ := hj
        obtain ⟨u62, hj⟩ := hj
        obtain ⟨u63, hj⟩ := hj
        obtain ⟨u64, hj⟩ := hj
        obtain ⟨u65, hj⟩ := hj
        obtain ⟨u66, hj⟩ := hj
        obtain ⟨u67, hj⟩ := hj
        obtain ⟨u68, hj⟩ := hj
        obtain ⟨u69, hj⟩ := hj
        obtain ⟨u70, hj⟩ := hj
        obtain ⟨u71, hj⟩ := hj
        obtain ⟨u72, hj⟩ := hj
        obtain ⟨u73, hj⟩ := hj
        obtain ⟨u74, hj⟩ := hj
        obtain ⟨u75, hj⟩ := hj
        obtain ⟨u76, hj⟩ := hj
        obtain ⟨u77, hj⟩ := hj
        obtain ⟨u78, hj⟩ := hj
        obtain ⟨u79, hj⟩ := hj
        obtain ⟨u80, hj⟩ := hj
        obtain ⟨u81, hj⟩ := hj
        obtain ⟨u82, hj⟩ := hj
        obtain ⟨u83, hj⟩ := hj
        obtain ⟨u84, hj⟩ := hj
        obtain ⟨u85, hj⟩ := hj
        obtain ⟨u86, hj⟩ := hj
        obtain ⟨u87, hj⟩ := hj
        obtain ⟨u88, hj⟩ := hj
        obtain ⟨u89, hj⟩ := hj
        obtain ⟨u90, hj⟩ := hj
        obtain ⟨u91, hj⟩ := hj
        obtain ⟨u92, hj⟩ := hj
        obtain ⟨u93, hj⟩ := hj
        obtain ⟨u94, hj⟩ := hj
        obtain ⟨u95, hj⟩ := hj
        obtain ⟨u96, hj⟩ := hj
        obtain ⟨u97, hj⟩ := hj
        obtain ⟨u98, hj⟩ := hj
        obtain ⟨u99, hj⟩ := hj
        obtain ⟨u100, hj⟩ := hj
        obtain ⟨u101, hj⟩ := hj
        obtain ⟨u102, hj⟩ := hj
        obtain ⟨u103, hj⟩ := hj
        obtain ⟨u104, hj⟩ := hj
        obtain ⟨u105, hj⟩ := hj
        obtain ⟨u106, hj⟩ := hj
        obtain ⟨u107, hj⟩ := hj
        obtain ⟨u108, hj⟩ := hj
        obtain ⟨u109, hj⟩ := hj
        obtain ⟨u110, hj⟩ := hj
        obtain ⟨u111, hj⟩ := hj
        obtain ⟨u112, hj⟩ := hj
        obtain ⟨u113, hj⟩ := hj
        obtain ⟨u114, hj⟩ := hj
        obtain ⟨u115, hj⟩ := hj
        obtain ⟨u116, hj⟩ := hj
        obtain ⟨u117, hj⟩ := hj
        obtain ⟨u118, hj⟩ := hj
        obtain ⟨u119, hj⟩ := hj
        obtain ⟨u120, hj⟩ := hj
        obtain ⟨u121, hj⟩ := hj
        obtain ⟨u122, hj⟩ := hj
        obtain ⟨u123, hj⟩ := hj
        obtain ⟨u124, hj⟩ := hj
        obtain ⟨u125, hj⟩ := hj
        obtain ⟨u126, hj⟩ := hj
        obtain ⟨u127, hj⟩ := hj
        obtain ⟨u128, hj⟩ := hj
        obtain ⟨u129, hj⟩ := hj
        obtain ⟨u130, hj⟩ := hj
        obtain ⟨u131, hj⟩ := hj
        obtain ⟨u132, hj⟩ := hj
        obtain ⟨u133, hj⟩ := hj
        obtain ⟨u134, hj⟩ := hj
        obtain ⟨u135, hj⟩ := hj
        obtain ⟨u136, hj⟩ := hj
        obtain ⟨u137, hj⟩ := hj
        obtain ⟨u138, hj⟩ := hj
        obtain ⟨u139, hj⟩ := hj
        obtain ⟨u140, hj⟩ := hj
        obtain ⟨u141, hj⟩ := hj
        obtain ⟨u142, hj⟩ := hj
        obtain ⟨u143, hj⟩ := hj
        obtain ⟨u144, hj⟩ := hj
        obtain ⟨u145, hj⟩ := hj
        obtain ⟨u146, hj⟩ := hj
        obtain ⟨u147, hj⟩ := hj
        obtain ⟨u148, hj⟩ := hj
        obtain ⟨u149, hj⟩ := hj
        obtain ⟨u150, hj⟩ := hj
        obtain ⟨u151, hj⟩ := hj
        obtain ⟨u152, hj⟩ := hj
        obtain ⟨u153, hj⟩ := hj
        obtain ⟨u154, hj⟩ := hj
        obtain ⟨u155, hj⟩ := hj
        obtain ⟨u156, hj⟩ := hj
        obtain ⟨u157, hj⟩ := hj
        obtain ⟨u158, hj⟩ := hj
        obtain ⟨u159, hj⟩ := hj
        obtain ⟨u160, hj⟩ := hj
        obtain ⟨u161, hj⟩ := hj
        obtain ⟨u162, hj⟩ := hj
        obtain ⟨⟨t, rfl, ht1, ht2, rfl, hq1, hq2⟩, rfl⟩ := hj
        obtain ⟨LL, hL1, hL2, hL3⟩ := line_stepS hlt ht1 ht2 hq1.out hq2.out
        obtain ⟨ln, hln⟩ : ∃ b, b = (s.drop f).take (t - f) := ⟨_, rfl⟩
        have hcut : (⟨s.toArray⟩ : ByteArray).extract f t = ⟨ln.toArray⟩ := by rw [cut_str, hln]
        have hll : ln.length + f ≤ t := by rw [hln]; simp; omega
        have HL2 : Hid (t < s.length → readS 0 sc0 0 (linesL s) = match lineS st x ln with
            | none => (n, none)
            | some (st', x') => readS st' x' (n + 1) (linesL (s.drop (t + 1)))) := fun h => by
          rw [hh.out.reads, hL1, readS, if_pos (hL2 h).1, (hL2 h).2, ← hln]
          cases lineS st x ln <;> rfl
        have HL3 : Hid (t = s.length → readS 0 sc0 0 (linesL s) = (n, none)) := fun h => by rw [hh.out.reads, hL1, readS, if_neg (hL3 h)]
        have hfe : (f : Int) ≤ t := by omega
        have hes : (t : Int) ≤ s.length := by omega
        have C1 := HW1.out ln wr (by omega)
        clear hq1 hq2 hL1 hL2 hL3 hln LL
        go_wp2_with fail
        refine C1.mono ?_
        rintro e w1 ⟨hp, k1⟩
        obtain ⟨va, ca, he, hna⟩ := words_one hp k1
        obtain ⟨bA, hbbA⟩ : ∃ b, b = (wordsM m63 cellsW ln).isSome := ⟨_, rfl⟩
        obtain ⟨LA, hLLA⟩ : ∃ L, L = (wordsM m63 cellsW ln).getD [] := ⟨_, rfl⟩
        rw [← hbbA, ← hLLA] at he
        rw [← hLLA] at hna
        have HY1 : Hid (bA = true → wordsM m63 cellsW ln = some LA) := fun h => by rw [hLLA]; exact getD_some' (by rw [← hbbA]; exact h)
        have HN1 : Hid (bA = false → wordsM m63 cellsW ln = none) := fun h => isSome_no (by rw [← hbbA]; exact h)
        subst he
        clear hbbA hLLA C1 hp

        have C2 := HW2.out ln w1 (by omega)
        clear hcut
        go_wp2_with fail
        refine C2.mono ?_
        rintro e w2 ⟨hp, k2⟩
        obtain ⟨vb, cb, he, hnb⟩ := words_one hp k2
        obtain ⟨bB, hbbB⟩ : ∃ b, b = (wordsM m64 firstW ln).isSome := ⟨_, rfl⟩
        obtain ⟨LB, hLLB⟩ : ∃ L, L = (wordsM m64 firstW ln).getD [] := ⟨_, rfl⟩
        rw [← hbbB, ← hLLB] at he
        rw [← hLLB] at hnb
        have HY2 : Hid (bB = true → wordsM m64 firstW ln = some LB) := fun h => by rw [hLLB]; exact getD_some' (by rw [← hbbB]; exact h)
        have HN2 : Hid (bB = false → wordsM m64 firstW ln = none) := fun h => isSome_no (by rw [← hbbB]; exact h)
        subst he
        clear hbbB hLLB C2 hp

        have C3 := HW3.out ln w2 (by omega)
        go_wp2_with fail
        refine C3.mono ?_
        rintro e w3 ⟨hp, k3⟩
        obtain ⟨vc, cc, he, hnc⟩ := words_one hp k3
        obtain ⟨bC, hbbC⟩ : ∃ b, b = (wordsM m32 picksW ln).isSome := ⟨_, rfl⟩
        obtain ⟨LC, hLLC⟩ : ∃ L, L = (wordsM m32 picksW ln).getD [] := ⟨_, rfl⟩
        rw [← hbbC, ← hLLC] at he
        rw [← hLLC] at hnc
        have HY3 : Hid (bC = true → wordsM m32 picksW ln = some LC) := fun h => by rw [hLLC]; exact getD_some' (by rw [← hbbC]; exact h)
        have HN3 : Hid (bC = false → wordsM m32 picksW ln = none) := fun h => isSome_no (by rw [← hbbC]; exact h)
        subst he
        clear hbbC hLLC C3 hp

        have C4 := rone9_any ln (by omega) w3
        go_wp2_with fail
        refine C4.mono ?_
        rintro e w4 ⟨hp, k4⟩
        obtain ⟨⟨io, ia, ib, ic, iN⟩, he, hi4⟩ := one_one hp
        obtain ⟨bI, hbI⟩ : ∃ b, b = (parseL ln).isSome := ⟨_, rfl⟩
        rw [← hbI] at he
        subst he
        have HYI : Hid (bI = true → parseL ln = some ⟨io, ia, ib, ic, iN⟩) := fun h => by
          cases hq : parseL ln with
          | none => rw [hbI, hq] at h; cases h
          | some j => rw [hi4 j hq]
        have HNI : Hid (bI = false → parseL ln = none) := fun h => isSome_no (by rw [← hbI]; exact h)
        clear hbI hi4 hp C4 HW1 HW2 HW3
        have k14 := ((k1.trans k2).trans k3).trans k4
        have HSX : Hid (Sx w4 w.heap.size gx vf vp vk ps x) := hh.out.rows.keeps k14
        have hz4 := (k14.block _ (lt_of_block hh.out.zero) (fun f => f)).trans hh.out.zero
        have hk4 := hh.out.kept.trans k14
        have HNA : Hid (Nums w4 wr.heap.size (.slice va LA.length ca) LA) := hna.keeps ((k2.trans k3).trans k4) (fun _ _ f => f)
        have HNB : Hid (Nums w4 w1.heap.size (.slice vb LB.length cb) LB) := hnb.keeps (k3.trans k4) (fun _ _ f => f)
        have HNC : Hid (Nums w4 w2.heap.size (.slice vc LC.length cc) LC) := hnc.keeps k4 (fun _ _ f => f)
        have HKS : Hid (Keeps (fun _ => False) wr w1 ∧ Keeps (fun _ => False) w1 w2 ∧ Keeps (fun _ => False) w2 w3 ∧ Keeps (fun _ => False) w3 w4) := ⟨k1, k2, k3, k4⟩
        have kX := hk4.alloc (.cells #[.int .i64 io, .int .i64 ia, .int .i64 ib, .int .i64 ic, .int .u64 iN] 45)
        have zX := ((MapKept.heap_alloc w4 (.cells #[.int .i64 io, .int .i64 ia, .int .i64 ib, .int .i64 ic, .int .u64 iN] 45)).2 _ (lt_of_block hz4)).trans hz4
        have bX := alloc_block w4 (.cells #[.int .i64 io, .int .i64 ia, .int .i64 ib, .int .i64 ic, .int .u64 iN] 45)
        have k4X := (Keeps.refl (fun _ => False) w4).alloc (.cells #[.int .i64 io, .int .i64 ia, .int .i64 ib, .int .i64 ic, .int .u64 iN] 45)
        have HX4 : Hid (_ ∧ _ ∧ _ ∧ _) := ⟨kX, zX, bX, k4X⟩
        have BZ : Hid (_ = _) := zX
        have kz := kX.row (Nat.le_refl w.heap.size) #[.int .i64 0, .slice none 0 0, .slice none 0 0, .slice none 0 0]
        have HBD : Hid (readS 0 sc0 0 (linesL s) = (n, none) → ∀ W, RSPost s w (.returned (.tuple #[.agg #[.int .i64 0, .slice none 0 0, .slice none 0 0, .slice none 0 0], .int .i64 (n : Int), .bool false])) W) := fun q W => HBAD.out n W q
        clear k1 k2 k3 k4 k14 hz4 hk4 hna hnb hnc HBAD kX zX bX k4X
        dsimp only [I5.cells]
        by_cases htl : t < s.length
        · have HRD := HL2.out htl
          have HRDH : Hid (_ = _) := HRD
          have hte : ((t : Int) == s.length) = false := by simp; omega
          clear HRD HL2 HL3
          rcases (by omega : st = 0 ∨ st = 1 ∨ st = 2 ∨ st = 3 ∨ st = 4) with rfl | rfl | rfl | rfl | rfl
          · cases bA
            · have HLN : Hid (lineS 0 x ln = none) := lineS_cells_no (fun c h => by rw [HN1.out rfl] at h; cases h)
              have hR := HBD.out (by rw [HRDH.out, HLN.out])
              clear HBD HSX HNA HNB HNC HKS HX4 hh HRDH HLN
              go_wp2_with (refine wpList_store_row' rfl 26 _ _ rfl w.heap.size _ rfl rfl 26 _ BZ.out size_scr rfl (by simp [Value.oneCell']) ?_)
              refine bodyPost_ret (scr_ret3 rfl _ _ w.heap.size _ _ BZ.out rfl rfl) rfl ?_
              exact ⟨hR _, kz⟩
            · by_cases hl1 : LA.length = 1
              · have hsx := HSX.out.keeps HX4.out.2.2.2
                have hzx := HX4.out.2.1
                have hkx := HX4.out.1
                obtain ⟨c, rfl⟩ : ∃ c, LA = [c] := List.length_eq_one_iff.1 hl1
                have hw := HY1.out rfl
                have hc63 : c ≤ m63 := wordsM_le hw c (by simp)
                have hcw : IntKind.i64.wrap (c : Int) = (c : Int) := by unfold m63 at hc63; simp [IntKind.wrap, IntKind.signed, IntKind.bits]; omega
                obtain ⟨ga, cap, ea, hcap, hca⟩ := row1_at (own_keeps HNA.out.own HX4.out.2.2.2 (fun _ _ f => f)) (by simp)
                simp only [Value.slice.injEq] at ea
                obtain ⟨rfl, -, rfl⟩ := ea
                have ca0 := hca 0 _ (by simp) rfl
                have hcp : (0 : Int) < ca := by simp at hcap; omega
                have c0 := cell_of_block hsx.box 0
                have f0 := frozen_of_block hsx.box 0
                simp only [List.getElem?_toArray, List.getElem?_cons_zero] at c0
                have fin : Hid (RSt s w gx vf vp vk ps { x with cells := c } 1 (n + 1) (t + 1) ((w4.alloc (.cells #[.int .i64 io, .int .i64 ia, .int .i64 ib, .int .i64 ic, .int .u64 iN] 45)).setCell ⟨gx, 0, none⟩ (.int .i64 (c : Int)))) :=
                  ⟨hsx.setCells c, (Below.heap_setCell _ _ _ _ (by have := HGX.out; simp; omega)).trans hzx, hkx.setCell (p := ⟨gx, 0, none⟩) (.inl (by have := HGX.out; simp; omega)) _, by rw [HRDH.out, lineS_cells hw], by have := hh.out.nprogs; show x.progs.length ≤ n + 1; omega, fun p hp => by have := hh.out.each p hp; omega, by have := hh.out.npicks; show x.picks.length ≤ t + 1; omega, fun h => by cases h⟩
                clear HBD HSX HNA HNB HNC HKS HX4 hh HRDH HY1 HY2 HY3 HN1 HN2 HN3 HYI HNI
                clear hsx hzx hkx hca hw hc63
                go_wp2_with fail
                go_roundw
                · exact ⟨1, n + 1, t + 1, _, _, _, _, _, by first | rfl | simp, by first | rfl | simp, by first | rfl | simp, by omega, by omega, by omega, fin⟩
                · simp [intOf]; omega
              · have HLN : Hid (lineS 0 x ln = none) := lineS_cells_no (fun c h => by rw [HY1.out rfl] at h; cases h; exact hl1 rfl)
                have hl1i : ((LA.length : Int) == 1) = false := by simp; omega
                have hR := HBD.out (by rw [HRDH.out, HLN.out])
                clear HBD HSX HNA HNB HNC HKS HX4 hh HRDH HLN
                go_wp2_with (refine wpList_store_row' rfl 26 _ _ rfl w.heap.size _ rfl rfl 26 _ BZ.out size_scr rfl (by simp [Value.oneCell']) ?_)
                refine bodyPost_ret (scr_ret3 rfl _ _ w.heap.size _ _ BZ.out rfl rfl) rfl ?_
                exact ⟨hR _, kz⟩
          · cases bB
            · by_cases hth : ln = threadW
              · have HTH : Hid (lineS 1 x ln = some (3, { x with progs := x.progs ++ [[]] })) := lineS_thread (by omega) (fun _ => HN2.out rfl) hth
                have hbe : (ByteArray.toList ⟨ln.toArray⟩ == [116, 104, 114, 101, 97, 100]) = true := by rw [hth]; simp [threadW]
                generalize ln.toArray = lA at *
                have hsx := HSX.out.keeps HX4.out.2.2.2
                have hzx := HX4.out.2.1
                have hkx := HX4.out.1
                have hls := HTH.out
                have c0 := cell_of_block hsx.box 2
                simp only [List.getElem?_toArray, List.getElem?_cons_zero, List.getElem?_cons_succ] at c0
                obtain ⟨v', W', hrun, hbx, hwk, hsx2, hk2⟩ := hsx.addProg hkx (by have := HGX.out; omega) (by have := hh.out.nprogs; omega)
                obtain ⟨pb2, pn2, pc2, rfl⟩ := own_form hsx2.progs
                rw [World.size_alloc] at hrun
                have HR : Hid (_ = _) := hrun
                have bx2 := hbx.trans hsx.box
                have c2 := cell_of_block bx2 2
                have f2 := frozen_of_block bx2 2
                simp only [List.getElem?_toArray, List.getElem?_cons_zero, List.getElem?_cons_succ] at c2
                have zz : (W'.setCell ⟨gx, 2, none⟩ (.slice pb2 pn2 pc2)).heap[w.heap.size]? = some (.cells #[.int .i64 0, .slice none 0 0, .slice none 0 0, .slice none 0 0] 26 (0, 0)) := (Below.heap_setCell _ _ _ _ (by have := HGX.out; simp; omega)).trans ((hwk _ (lt_of_block hzx) (no_script (by decide) hsx.progs hzx)).trans hzx)
                have fin : Hid (RSt s w gx vf (.slice pb2 pn2 pc2) vk (ps ++ [.slice none 0 0]) { x with progs := x.progs ++ [[]] } 3 (n + 1) (t + 1) (W'.setCell ⟨gx, 2, none⟩ (.slice pb2 pn2 pc2))) :=
                  ⟨hsx2, zz, hk2, by rw [HRDH.out, hls], by have := hh.out.nprogs; show (x.progs ++ [[]]).length ≤ n + 1; simp; omega, fun p hp => by
                    rcases List.mem_append.1 hp with hp | hp
                    · have := hh.out.each p hp; omega
                    · simp only [List.mem_singleton] at hp; subst hp; simp, by have := hh.out.npicks; show x.picks.length ≤ t + 1; omega, fun _ => by simp⟩
                clear HBD HSX HNA HNB HNC HKS HX4 hh HRDH HY1 HY2 HY3 HN1 HN2 HN3 HYI HNI
                clear hsx hzx hkx hls hrun hbx hwk bx2 zz hk2 hsx2 HTH
                go_wp2_with (at_builtin; refine wpList_append_run rfl _ _ 23 rfl rfl rfl HR.out ?_)
                go_roundw
                · exact ⟨3, n + 1, t + 1, _, _, _, _, _, by first | rfl | simp, by first | rfl | simp, by first | rfl | simp, by omega, by omega, by omega, fin⟩
                · simp [intOf]; omega
              · have hbe : (ByteArray.toList ⟨ln.toArray⟩ == [116, 104, 114, 101, 97, 100]) = false := by simpa [threadW] using hth
                cases bC
                · have HLN : Hid (lineS 1 x ln = none) := lineS_no (by omega) (fun _ => HN2.out rfl) (.inl hth) (.inl (HN3.out rfl)) (fun h => by cases h)
                  generalize ln.toArray = lA at *
                  have hR := HBD.out (by rw [HRDH.out, HLN.out])
                  clear HBD HSX HNA HNB HNC HKS HX4 hh HRDH HLN
                  go_wp2_with (refine wpList_store_row' rfl 26 _ _ rfl w.heap.size _ rfl rfl 26 _ BZ.out size_scr rfl (by simp [Value.oneCell']) ?_)
                  refine bodyPost_ret (scr_ret3 rfl _ _ w.heap.size _ _ BZ.out rfl rfl) rfl ?_
                  exact ⟨hR _, kz⟩
                · have hsx := HSX.out.keeps HX4.out.2.2.2
                  have hzx := HX4.out.2.1
                  have hkx := HX4.out.1
                  have hw := HY3.out rfl
                  have HLN : Hid (lineS 1 x ln = some (4, { x with picks := x.picks ++ LC })) := lineS_picks (by omega) (fun _ => HN2.out rfl) hth hw
                  have hlc := wordsM_len hw
                  have HM : Hid (∀ q ∈ LC, q ≤ m32) := wordsM_le hw
                  have hnc := HNC.out.keeps HX4.out.2.2.2 (fun _ _ f => f)
                  have HG : Hid (0 < LC.length → ∃ gc, vc = some ⟨gc, 0, none⟩ ∧ LC.length ≤ cc) := fun h => by
                    obtain ⟨gc, cap, e, hcap, _⟩ := row1_at HNC.out.own h
                    simp only [Value.slice.injEq] at e
                    exact ⟨gc, e.1, by rw [e.2.2]; exact hcap⟩
                  have ST0 : Hid (Sx (w4.alloc (.cells #[.int .i64 io, .int .i64 ia, .int .i64 ib, .int .i64 ic, .int .u64 iN] 45)) w.heap.size gx vf vp vk ps { x with picks := x.picks ++ LC.take 0 } ∧ (w4.alloc (.cells #[.int .i64 io, .int .i64 ia, .int .i64 ib, .int .i64 ic, .int .u64 iN] 45)).heap[w.heap.size]? = some (.cells #[.int .i64 0, .slice none 0 0, .slice none 0 0, .slice none 0 0] 26 (0, 0)) ∧ Keeps (fun _ => False) w (w4.alloc (.cells #[.int .i64 io, .int .i64 ia, .int .i64 ib, .int .i64 ic, .int .u64 iN] 45)) ∧ Nums (w4.alloc (.cells #[.int .i64 io, .int .i64 ia, .int .i64 ib, .int .i64 ic, .int .u64 iN] 45)) w2.heap.size (.slice vc LC.length cc) LC) := ⟨by simpa using hsx, hzx, hkx, hnc⟩
                  have HHN : Hid (x.progs.length ≤ n ∧ (∀ p ∈ x.progs, p.length ≤ n) ∧ x.picks.length ≤ f) := ⟨hh.out.nprogs, hh.out.each, hh.out.npicks⟩
                  have HRD2 : Hid (readS 0 sc0 0 (linesL s) = readS 4 { x with picks := x.picks ++ LC } (n + 1) (linesL (s.drop (t + 1)))) := by unfold Hid; rw [HRDH.out, HLN.out]
                  generalize ln.toArray = lA at *
                  clear HLN
                  clear HBD HSX HNA HNB HNC HKS HX4 hh HRDH HY1 HY2 HY3 HN1 HN2 HN3 HYI HNI
                  clear hsx hzx hkx hw hnc
                  go_wp2_with fail
                  go_loopw [19] (fun a19 wq => ∃ (k : Nat) (vk' : Value), a19 = .int .i64 (k : Int) ∧ k ≤ LC.length ∧ Hid (Sx wq w.heap.size gx vf vp vk' ps { x with picks := x.picks ++ LC.take k } ∧ wq.heap[w.heap.size]? = some (.cells #[.int .i64 0, .slice none 0 0, .slice none 0 0, .slice none 0 0] 26 (0, 0)) ∧ Keeps (fun _ => False) w wq ∧ Nums wq w2.heap.size (.slice vc LC.length cc) LC)) (fun a19 _ => LC.length - (intOf a19).toNat)
                  case atStart => exact ⟨0, vk, rfl, Nat.zero_le _, ST0⟩
                  case round =>
                    obtain ⟨k, vk', rfl, hk, hq⟩ := hrel
                    clear ST0
                    by_cases hkl : k < LC.length
                    · have hki : (k : Int) < LC.length := by omega
                      obtain ⟨gc, rfl, hcc⟩ := HG.out (by omega)
                      obtain ⟨p1, p2, p3, p4⟩ := hq.out
                      have kd : Keeps (fun _ => False) wr wr.drew := (Keeps.refl _ _).drewN 1
                      have p1d := p1.keeps kd
                      have p3d := p3.trans kd
                      have p4d := p4.keeps kd (fun _ _ f => f)
                      have p2d : wr.drew.heap[w.heap.size]? = some (.cells #[.int .i64 0, .slice none 0 0, .slice none 0 0, .slice none 0 0] 26 (0, 0)) := p2
                      have hym := HM.out _ (List.getElem_mem hkl)
                      obtain ⟨gc2, cap', e1, _, hcell⟩ := row1_at p4d.own (by omega)
                      simp only [Value.slice.injEq, Option.some.injEq, Addr.mk.injEq] at e1
                      obtain ⟨⟨rfl, -⟩, -, rfl⟩ := e1
                      have cy := hcell k _ hkl (by simp [hkl]; rfl)
                      obtain ⟨v', W', hrun, hwk, hngx, hs2, hk2, hkk⟩ := p1d.addPick p3d (by have := HGX.out; omega) (LC[k]) (by have := HHN.out.2.2; simp; omega)
                      have hngc : vk'.ownBlock ≠ some gc := fun e => by
                        obtain ⟨c1, q1⟩ := own_typed p1d.picks.own e
                        obtain ⟨c2, q2⟩ := own_typed p4d.own (g := gc) rfl
                        rw [q1] at q2
                        simp only [Option.some.injEq, Obj.cells.injEq] at q2
                        exact absurd q2.2.1 (by decide)
                      have hgcx : gc ≠ gx := fun e => by
                        subst e
                        obtain ⟨c2, q2⟩ := own_typed p4d.own (g := gc) rfl
                        rw [p1d.box] at q2
                        simp only [Option.some.injEq, Obj.cells.injEq] at q2
                        exact absurd q2.2.1 (by decide)
                      have p4e := p4d.keeps hkk (fun g e f => by
                        cases e
                        rcases f with f | f
                        · exact hgcx f
                        · exact hngc f)
                      have p2e : (W'.setCell ⟨gx, 3, none⟩ v').heap[w.heap.size]? = some (.cells #[.int .i64 0, .slice none 0 0, .slice none 0 0, .slice none 0 0] 26 (0, 0)) := (Below.heap_setCell _ _ _ _ (by have := HGX.out; simp; omega)).trans ((hwk _ (lt_of_block p2d) (no_script (by decide) p1d.picks.own p2d)).trans p2d)
                      have htk : LC.take (k + 1) = LC.take k ++ [LC[k]] := List.take_succ_eq_append_getElem hkl
                      obtain ⟨nb, nn, nc', rfl⟩ := own_form hs2.picks.own
                      have fin : Hid (Sx (W'.setCell ⟨gx, 3, none⟩ (.slice nb nn nc')) w.heap.size gx vf vp (.slice nb nn nc') ps { x with picks := x.picks ++ LC.take (k + 1) } ∧ (W'.setCell ⟨gx, 3, none⟩ (.slice nb nn nc')).heap[w.heap.size]? = some (.cells #[.int .i64 0, .slice none 0 0, .slice none 0 0, .slice none 0 0] 26 (0, 0)) ∧ Keeps (fun _ => False) w (W'.setCell ⟨gx, 3, none⟩ (.slice nb nn nc')) ∧ Nums (W'.setCell ⟨gx, 3, none⟩ (.slice nb nn nc')) w2.heap.size (.slice (some ⟨gc, 0, none⟩) LC.length cc) LC) := ⟨by rw [htk, ← List.append_assoc]; exact hs2, p2e, hk2, p4e⟩
                      obtain ⟨kb, kn, kc, rfl⟩ := own_form p1d.picks.own
                      have bx := p1d.box
                      have bx' := (hwk gx (lt_of_block bx) hngx).trans bx
                      have cg := World.block_lt_of_cell? _ _ cy
                      have cyW : W'.cell? ⟨gc, k, none⟩ = wr.drew.cell? ⟨gc, k, none⟩ := by simp only [World.cell?, hwk gc cg hngc]
                      generalize LC[k] = y at *
                      have hyw : IntKind.u32.wrap (y : Int) = (y : Int) := by unfold m32 at hym; simp [IntKind.wrap, IntKind.signed, IntKind.bits]; omega
                      have S0 : (fun X : World => X.cell? ⟨gx, 3, none⟩ = some (.slice kb kn kc) ∧ X.cell? ⟨gc, k, none⟩ = some (.int .u64 (y : Int))) wr.drew := ⟨by rw [cell_of_block bx]; rfl, cy⟩
                      have S1 : (fun X : World => X.cell? ⟨gx, 3, none⟩ = some (.slice kb kn kc) ∧ X.cell? ⟨gc, k, none⟩ = some (.int .u64 (y : Int))) (wr.drew.alloc (.cells #[.int .u32 (y : Int)] 41)) := ⟨((Keeps.refl (fun _ => False) wr.drew).alloc _).cell (fun f => f) S0.1, ((Keeps.refl (fun _ => False) wr.drew).alloc _).cell (fun f => f) S0.2⟩
                      have S4 : (fun X : World => X.cell? ⟨gx, 3, none⟩ = some (.slice kb kn kc) ∧ X.cell? ⟨gc, k, none⟩ = some (.int .u64 (y : Int))) W' := ⟨by rw [cell_of_block bx']; rfl, cyW.trans cy⟩
                      have c3 := cell_of_block bx' 3
                      have f3 := frozen_of_block bx' 3
                      simp only [List.getElem?_toArray, List.getElem?_cons_zero, List.getElem?_cons_succ] at c3
                      have HA : Hid (_ = _) := hrun
                      clear hq p1 p2 p3 p4 p1d p2d p3d p4d kd hcell hrun hwk hngx hs2 hk2 hkk hngc hgcx p4e p2e htk bx bx' cg cyW cy HRD2 HHN HM HG hym
                      go_wp2_with fail
                      refine wp_until (S := (fun X : World => X.cell? ⟨gx, 3, none⟩ = some (.slice kb kn kc) ∧ X.cell? ⟨gc, k, none⟩ = some (.int .u64 (y : Int)))) 10 11 rfl hmx ?_
                      generalize wr.drew = Vd at *
                      simp only [Array.replicate_succ, Array.replicate_zero, List.push_toArray, List.nil_append, List.cons_append]
                      refine u_take (i := 0) (v := .pointer (some ⟨gx, 3, none⟩)) 127 rfl rfl (by kernel_rfl) (by kernel_rfl) (by kernel_rfl) (by kernel_rfl) rfl (fun w' hw' => by obtain ⟨r0, r1⟩ := hw'; go_simp) S0 ?_
                      simp only [Act.put, List.setIfInBounds_toArray, List.set_cons_zero, List.set_cons_succ]
                      refine u_take (i := 1) (v := .slice kb kn kc) 128 rfl rfl (by kernel_rfl) (by kernel_rfl) (by kernel_rfl) (by kernel_rfl) rfl (fun w' hw' => by obtain ⟨r0, r1⟩ := hw'; go_simp) S0 ?_
                      simp only [Act.put, List.setIfInBounds_toArray, List.set_cons_zero, List.set_cons_succ]
                      refine u_take (i := 2) (v := .slice (some ⟨gc, 0, none⟩) LC.length cc) 129 rfl rfl (by kernel_rfl) (by kernel_rfl) (by kernel_rfl) (by kernel_rfl) rfl (fun w' hw' => by obtain ⟨r0, r1⟩ := hw'; go_simp) S0 ?_
                      simp only [Act.put, List.setIfInBounds_toArray, List.set_cons_zero, List.set_cons_succ]
                      refine u_take (i := 3) (v := .int .i64 (k : Int)) 130 rfl rfl (by kernel_rfl) (by kernel_rfl) (by kernel_rfl) (by kernel_rfl) rfl (fun w' hw' => by obtain ⟨r0, r1⟩ := hw'; go_simp) S0 ?_
                      simp only [Act.put, List.setIfInBounds_toArray, List.set_cons_zero, List.set_cons_succ]
                      refine u_take (i := 4) (v := .pointer (some ⟨gc, k, none⟩)) 131 rfl rfl (by kernel_rfl) (by kernel_rfl) (by kernel_rfl) (by kernel_rfl) rfl (fun w' hw' => by obtain ⟨r0, r1⟩ := hw'; go_simp) S0 ?_
                      simp only [Act.put, List.setIfInBounds_toArray, List.set_cons_zero, List.set_cons_succ]
                      refine u_take (i := 5) (v := .int .u64 (y : Int)) 132 rfl rfl (by kernel_rfl) (by kernel_rfl) (by kernel_rfl) (by kernel_rfl) rfl (fun w' hw' => by obtain ⟨r0, r1⟩ := hw'; go_simp) S0 ?_
                      simp only [Act.put, List.setIfInBounds_toArray, List.set_cons_zero, List.set_cons_succ]
                      refine u_take (i := 6) (v := .int .u32 (y : Int)) 133 rfl rfl (by kernel_rfl) (by kernel_rfl) (by kernel_rfl) (by kernel_rfl) rfl (fun w' hw' => by obtain ⟨r0, r1⟩ := hw'; go_simp) S0 ?_
                      simp only [Act.put, List.setIfInBounds_toArray, List.set_cons_zero, List.set_cons_succ]
                      refine u_val (i := 7) (v := .slice (some ⟨Vd.heap.size, 0, none⟩) 1 1) (w' := Vd.alloc (.cells #[.int .u32 (y : Int)] 41)) (some 134) (by kernel_rfl) rfl rfl rfl (by go_simp) S1 ?_
                      simp only [Act.put, List.setIfInBounds_toArray, List.set_cons_zero, List.set_cons_succ]
                      refine u_val (i := 8) (v := .slice nb nn nc') (w' := W') (some 135) (by kernel_rfl) rfl rfl rfl (run_append_op rfl rfl rfl HA.out) S4 ?_
                      simp only [Act.put, List.setIfInBounds_toArray, List.set_cons_zero, List.set_cons_succ]
                      refine u_val (i := 9) (v := .pointer (some ⟨gx, 3, none⟩)) (w' := W') (some 136) (by kernel_rfl) rfl rfl rfl (by go_simp) S4 ?_
                      simp only [Act.put, List.setIfInBounds_toArray, List.set_cons_zero, List.set_cons_succ]
                      refine u_last (w' := W'.setCell ⟨gx, 3, none⟩ (.slice nb nn nc')) (by kernel_rfl) rfl rfl rfl (by go_simp) (by kernel_rfl) ?_
                      clear S0 S1 S4 HA c3 f3
                      go_wp2_with fail
                      go_roundw
                      · (repeat apply Exists.intro)
                        refine ⟨?_, rfl⟩
                        exact ⟨k + 1, _, by simp, by omega, fin⟩
                      · simp [intOf]; omega
                    · have hki : ¬ (k : Int) < LC.length := by omega
                      obtain rfl : k = LC.length := by omega
                      obtain ⟨p1, p2, p3, p4⟩ := hq.out
                      rw [List.take_length] at p1
                      have fin : Hid (RSt s w gx vf vp vk' ps { x with picks := x.picks ++ LC } 4 (n + 1) (t + 1) wr) := ⟨p1, p2, p3, HRD2.out, by have := HHN.out.1; show x.progs.length ≤ n + 1; omega, fun p hp => by have := HHN.out.2.1 p hp; omega, by have := HHN.out.2.2; show (x.picks ++ LC).length ≤ t + 1; simp; omega, fun h => by cases h⟩
                      clear hq p1 p2 p3 p4 HRD2 HHN HM HG
                      go_wp2_with fail
                      go_roundw
                      · exact ⟨4, n + 1, t + 1, _, _, _, _, _, by first | rfl | simp, by first | rfl | simp, by first | rfl | simp, by omega, by omega, by omega, fin⟩
                      · simp [intOf]; omega
            · have hsx := HSX.out.keeps HX4.out.2.2.2
              have hzx := HX4.out.2.1
              have hkx := HX4.out.1
              have hw := HY2.out rfl
              have c0 := cell_of_block hsx.box 1
              have f0 := frozen_of_block hsx.box 1
              simp only [List.getElem?_toArray, List.getElem?_cons_zero, List.getElem?_cons_succ] at c0
              have kw4 : Keeps (fun _ => False) wr (w4.alloc (.cells #[.int .i64 io, .int .i64 ia, .int .i64 ib, .int .i64 ic, .int .u64 iN] 45)) := (((HKS.out.1.trans HKS.out.2.1).trans HKS.out.2.2.1).trans HKS.out.2.2.2).trans HX4.out.2.2.2
              have hnX : Nums (w4.alloc (.cells #[.int .i64 io, .int .i64 ia, .int .i64 ib, .int .i64 ic, .int .u64 iN] 45)) wr.heap.size (.slice vb LB.length cb) LB := ⟨own_mono (own_keeps HNB.out.own HX4.out.2.2.2 (fun _ _ f => f)) HKS.out.1.size, kw4.size⟩
              have fin : Hid (RSt s w gx (.slice vb LB.length cb) vp vk ps { x with first := LB } 2 (n + 1) (t + 1) ((w4.alloc (.cells #[.int .i64 io, .int .i64 ia, .int .i64 ib, .int .i64 ic, .int .u64 iN] 45)).setCell ⟨gx, 1, none⟩ (.slice vb LB.length cb))) :=
                ⟨hh.out.rows.setFirst kw4 hnX, (Below.heap_setCell _ _ _ _ (by have := HGX.out; simp; omega)).trans hzx, hkx.setCell (p := ⟨gx, 1, none⟩) (.inl (by have := HGX.out; simp; omega)) _, by rw [HRDH.out, lineS_first hw], by have := hh.out.nprogs; show x.progs.length ≤ n + 1; omega, fun p hp => by have := hh.out.each p hp; omega, by have := hh.out.npicks; show x.picks.length ≤ t + 1; omega, fun h => by cases h⟩
              clear HBD HSX HNA HNB HNC HKS HX4 hh HRDH HY1 HY2 HY3 HN1 HN2 HN3 HYI HNI
              clear hsx hzx hkx hw kw4 hnX
              go_wp2_with fail
              go_roundw
              · exact ⟨2, n + 1, t + 1, _, _, _, _, _, by first | rfl | simp, by first | rfl | simp, by first | rfl | simp, by omega, by omega, by omega, fin⟩
              · simp [intOf]; omega
          · by_cases hth : ln = threadW
            · have HTH : Hid (lineS 2 x ln = some (3, { x with progs := x.progs ++ [[]] })) := lineS_thread (by omega) (fun h => by cases h) hth
              have hbe : (ByteArray.toList ⟨ln.toArray⟩ == [116, 104, 114, 101, 97, 100]) = true := by rw [hth]; simp [threadW]
              generalize ln.toArray = lA at *
              have hsx := HSX.out.keeps HX4.out.2.2.2
              have hzx := HX4.out.2.1
              have hkx := HX4.out.1
              have hls := HTH.out
              have c0 := cell_of_block hsx.box 2
              simp only [List.getElem?_toArray, List.getElem?_cons_zero, List.getElem?_cons_succ] at c0
              obtain ⟨v', W', hrun, hbx, hwk, hsx2, hk2⟩ := hsx.addProg hkx (by have := HGX.out; omega) (by have := hh.out.nprogs; omega)
              obtain ⟨pb2, pn2, pc2, rfl⟩ := own_form hsx2.progs
              rw [World.size_alloc] at hrun
              have HR : Hid (_ = _) := hrun
              have bx2 := hbx.trans hsx.box
              have c2 := cell_of_block bx2 2
              have f2 := frozen_of_block bx2 2
              simp only [List.getElem?_toArray, List.getElem?_cons_zero, List.getElem?_cons_succ] at c2
              have zz : (W'.setCell ⟨gx, 2, none⟩ (.slice pb2 pn2 pc2)).heap[w.heap.size]? = some (.cells #[.int .i64 0, .slice none 0 0, .slice none 0 0, .slice none 0 0] 26 (0, 0)) := (Below.heap_setCell _ _ _ _ (by have := HGX.out; simp; omega)).trans ((hwk _ (lt_of_block hzx) (no_script (by decide) hsx.progs hzx)).trans hzx)
              have fin : Hid (RSt s w gx vf (.slice pb2 pn2 pc2) vk (ps ++ [.slice none 0 0]) { x with progs := x.progs ++ [[]] } 3 (n + 1) (t + 1) (W'.setCell ⟨gx, 2, none⟩ (.slice pb2 pn2 pc2))) :=
                ⟨hsx2, zz, hk2, by rw [HRDH.out, hls], by have := hh.out.nprogs; show (x.progs ++ [[]]).length ≤ n + 1; simp; omega, fun p hp => by
                  rcases List.mem_append.1 hp with hp | hp
                  · have := hh.out.each p hp; omega
                  · simp only [List.mem_singleton] at hp; subst hp; simp, by have := hh.out.npicks; show x.picks.length ≤ t + 1; omega, fun _ => by simp⟩
              clear HBD HSX HNA HNB HNC HKS HX4 hh HRDH HY1 HY2 HY3 HN1 HN2 HN3 HYI HNI
              clear hsx hzx hkx hls hrun hbx hwk bx2 zz hk2 hsx2 HTH
              go_wp2_with (at_builtin; refine wpList_append_run rfl _ _ 23 rfl rfl rfl HR.out ?_)
              go_roundw
              · exact ⟨3, n + 1, t + 1, _, _, _, _, _, by first | rfl | simp, by first | rfl | simp, by first | rfl | simp, by omega, by omega, by omega, fin⟩
              · simp [intOf]; omega
            · have hbe : (ByteArray.toList ⟨ln.toArray⟩ == [116, 104, 114, 101, 97, 100]) = false := by simpa [threadW] using hth
              cases bC
              · have HLN : Hid (lineS 2 x ln = none) := lineS_no (by omega) (fun h => by cases h) (.inl hth) (.inl (HN3.out rfl)) (fun h => by cases h)
                generalize ln.toArray = lA at *
                have hR := HBD.out (by rw [HRDH.out, HLN.out])
                clear HBD HSX HNA HNB HNC HKS HX4 hh HRDH HLN
                go_wp2_with (refine wpList_store_row' rfl 26 _ _ rfl w.heap.size _ rfl rfl 26 _ BZ.out size_scr rfl (by simp [Value.oneCell']) ?_)
                refine bodyPost_ret (scr_ret3 rfl _ _ w.heap.size _ _ BZ.out rfl rfl) rfl ?_
                exact ⟨hR _, kz⟩
              · have hsx := HSX.out.keeps HX4.out.2.2.2
                have hzx := HX4.out.2.1
                have hkx := HX4.out.1
                have hw := HY3.out rfl
                have HLN : Hid (lineS 2 x ln = some (4, { x with picks := x.picks ++ LC })) := lineS_picks (by omega) (fun h => by cases h) hth hw
                have hlc := wordsM_len hw
                have HM : Hid (∀ q ∈ LC, q ≤ m32) := wordsM_le hw
                have hnc := HNC.out.keeps HX4.out.2.2.2 (fun _ _ f => f)
                have HG : Hid (0 < LC.length → ∃ gc, vc = some ⟨gc, 0, none⟩ ∧ LC.length ≤ cc) := fun h => by
                  obtain ⟨gc, cap, e, hcap, _⟩ := row1_at HNC.out.own h
                  simp only [Value.slice.injEq] at e
                  exact ⟨gc, e.1, by rw [e.2.2]; exact hcap⟩
                have ST0 : Hid (Sx (w4.alloc (.cells #[.int .i64 io, .int .i64 ia, .int .i64 ib, .int .i64 ic, .int .u64 iN] 45)) w.heap.size gx vf vp vk ps { x with picks := x.picks ++ LC.take 0 } ∧ (w4.alloc (.cells #[.int .i64 io, .int .i64 ia, .int .i64 ib, .int .i64 ic, .int .u64 iN] 45)).heap[w.heap.size]? = some (.cells #[.int .i64 0, .slice none 0 0, .slice none 0 0, .slice none 0 0] 26 (0, 0)) ∧ Keeps (fun _ => False) w (w4.alloc (.cells #[.int .i64 io, .int .i64 ia, .int .i64 ib, .int .i64 ic, .int .u64 iN] 45)) ∧ Nums (w4.alloc (.cells #[.int .i64 io, .int .i64 ia, .int .i64 ib, .int .i64 ic, .int .u64 iN] 45)) w2.heap.size (.slice vc LC.length cc) LC) := ⟨by simpa using hsx, hzx, hkx, hnc⟩
                have HHN : Hid (x.progs.length ≤ n ∧ (∀ p ∈ x.progs, p.length ≤ n) ∧ x.picks.length ≤ f) := ⟨hh.out.nprogs, hh.out.each, hh.out.npicks⟩
                have HRD2 : Hid (readS 0 sc0 0 (linesL s) = readS 4 { x with picks := x.picks ++ LC } (n + 1) (linesL (s.drop (t + 1)))) := by unfold Hid; rw [HRDH.out, HLN.out]
                generalize ln.toArray = lA at *
                clear HLN
                clear HBD HSX HNA HNB HNC HKS HX4 hh HRDH HY1 HY2 HY3 HN1 HN2 HN3 HYI HNI
                clear hsx hzx hkx hw hnc
                go_wp2_with fail
                go_loopw [19] (fun a19 wq => ∃ (k : Nat) (vk' : Value), a19 = .int .i64 (k : Int) ∧ k ≤ LC.length ∧ Hid (Sx wq w.heap.size gx vf vp vk' ps { x with picks := x.picks ++ LC.take k } ∧ wq.heap[w.heap.size]? = some (.cells #[.int .i64 0, .slice none 0 0, .slice none 0 0, .slice none 0 0] 26 (0, 0)) ∧ Keeps (fun _ => False) w wq ∧ Nums wq w2.heap.size (.slice vc LC.length cc) LC)) (fun a19 _ => LC.length - (intOf a19).toNat)
                case atStart => exact ⟨0, vk, rfl, Nat.zero_le _, ST0⟩
                case round =>
                  obtain ⟨k, vk', rfl, hk, hq⟩ := hrel
                  clear ST0
                  by_cases hkl : k < LC.length
                  · have hki : (k : Int) < LC.length := by omega
                    obtain ⟨gc, rfl, hcc⟩ := HG.out (by omega)
                    obtain ⟨p1, p2, p3, p4⟩ := hq.out
                    have kd : Keeps (fun _ => False) wr wr.drew := (Keeps.refl _ _).drewN 1
                    have p1d := p1.keeps kd
                    have p3d := p3.trans kd
                    have p4d := p4.keeps kd (fun _ _ f => f)
                    have p2d : wr.drew.heap[w.heap.size]? = some (.cells #[.int .i64 0, .slice none 0 0, .slice none 0 0, .slice none 0 0] 26 (0, 0)) := p2
                    have hym := HM.out _ (List.getElem_mem hkl)
                    obtain ⟨gc2, cap', e1, _, hcell⟩ := row1_at p4d.own (by omega)
                    simp only [Value.slice.injEq, Option.some.injEq, Addr.mk.injEq] at e1
                    obtain ⟨⟨rfl, -⟩, -, rfl⟩ := e1
                    have cy := hcell k _ hkl (by simp [hkl]; rfl)
                    obtain ⟨v', W', hrun, hwk, hngx, hs2, hk2, hkk⟩ := p1d.addPick p3d (by have := HGX.out; omega) (LC[k]) (by have := HHN.out.2.2; simp; omega)
                    have hngc : vk'.ownBlock ≠ some gc := fun e => by
                      obtain ⟨c1, q1⟩ := own_typed p1d.picks.own e
                      obtain ⟨c2, q2⟩ := own_typed p4d.own (g := gc) rfl
                      rw [q1] at q2
                      simp only [Option.some.injEq, Obj.cells.injEq] at q2
                      exact absurd q2.2.1 (by decide)
                    have hgcx : gc ≠ gx := fun e => by
                      subst e
                      obtain ⟨c2, q2⟩ := own_typed p4d.own (g := gc) rfl
                      rw [p1d.box] at q2
                      simp only [Option.some.injEq, Obj.cells.injEq] at q2
                      exact absurd q2.2.1 (by decide)
                    have p4e := p4d.keeps hkk (fun g e f => by
                      cases e
                      rcases f with f | f
                      · exact hgcx f
                      · exact hngc f)
                    have p2e : (W'.setCell ⟨gx, 3, none⟩ v').heap[w.heap.size]? = some (.cells #[.int .i64 0, .slice none 0 0, .slice none 0 0, .slice none 0 0] 26 (0, 0)) := (Below.heap_setCell _ _ _ _ (by have := HGX.out; simp; omega)).trans ((hwk _ (lt_of_block p2d) (no_script (by decide) p1d.picks.own p2d)).trans p2d)
                    have htk : LC.take (k + 1) = LC.take k ++ [LC[k]] := List.take_succ_eq_append_getElem hkl
                    obtain ⟨nb, nn, nc', rfl⟩ := own_form hs2.picks.own
                    have fin : Hid (Sx (W'.setCell ⟨gx, 3, none⟩ (.slice nb nn nc')) w.heap.size gx vf vp (.slice nb nn nc') ps { x with picks := x.picks ++ LC.take (k + 1) } ∧ (W'.setCell ⟨gx, 3, none⟩ (.slice nb nn nc')).heap[w.heap.size]? = some (.cells #[.int .i64 0, .slice none 0 0, .slice none 0 0, .slice none 0 0] 26 (0, 0)) ∧ Keeps (fun _ => False) w (W'.setCell ⟨gx, 3, none⟩ (.slice nb nn nc')) ∧ Nums (W'.setCell ⟨gx, 3, none⟩ (.slice nb nn nc')) w2.heap.size (.slice (some ⟨gc, 0, none⟩) LC.length cc) LC) := ⟨by rw [htk, ← List.append_assoc]; exact hs2, p2e, hk2, p4e⟩
                    obtain ⟨kb, kn, kc, rfl⟩ := own_form p1d.picks.own
                    have bx := p1d.box
                    have bx' := (hwk gx (lt_of_block bx) hngx).trans bx
                    have cg := World.block_lt_of_cell? _ _ cy
                    have cyW : W'.cell? ⟨gc, k, none⟩ = wr.drew.cell? ⟨gc, k, none⟩ := by simp only [World.cell?, hwk gc cg hngc]
                    generalize LC[k] = y at *
                    have hyw : IntKind.u32.wrap (y : Int) = (y : Int) := by unfold m32 at hym; simp [IntKind.wrap, IntKind.signed, IntKind.bits]; omega
                    have S0 : (fun X : World => X.cell? ⟨gx, 3, none⟩ = some (.slice kb kn kc) ∧ X.cell? ⟨gc, k, none⟩ = some (.int .u64 (y : Int))) wr.drew := ⟨by rw [cell_of_block bx]; rfl, cy⟩
                    have S1 : (fun X : World => X.cell? ⟨gx, 3, none⟩ = some (.slice kb kn kc) ∧ X.cell? ⟨gc, k, none⟩ = some (.int .u64 (y : Int))) (wr.drew.alloc (.cells #[.int .u32 (y : Int)] 41)) := ⟨((Keeps.refl (fun _ => False) wr.drew).alloc _).cell (fun f => f) S0.1, ((Keeps.refl (fun _ => False) wr.drew).alloc _).cell (fun f => f) S0.2⟩
                    have S4 : (fun X : World => X.cell? ⟨gx, 3, none⟩ = some (.slice kb kn kc) ∧ X.cell? ⟨gc, k, none⟩ = some (.int .u64 (y : Int))) W' := ⟨by rw [cell_of_block bx']; rfl, cyW.trans cy⟩
                    have c3 := cell_of_block bx' 3
                    have f3 := frozen_of_block bx' 3
                    simp only [List.getElem?_toArray, List.getElem?_cons_zero, List.getElem?_cons_succ] at c3
                    have HA : Hid (_ = _) := hrun
                    clear hq p1 p2 p3 p4 p1d p2d p3d p4d kd hcell hrun hwk hngx hs2 hk2 hkk hngc hgcx p4e p2e htk bx bx' cg cyW cy HRD2 HHN HM HG hym
                    go_wp2_with fail
                    refine wp_until (S := (fun X : World => X.cell? ⟨gx, 3, none⟩ = some (.slice kb kn kc) ∧ X.cell? ⟨gc, k, none⟩ = some (.int .u64 (y : Int)))) 10 11 rfl hmx ?_
                    generalize wr.drew = Vd at *
                    simp only [Array.replicate_succ, Array.replicate_zero, List.push_toArray, List.nil_append, List.cons_append]
                    refine u_take (i := 0) (v := .pointer (some ⟨gx, 3, none⟩)) 127 rfl rfl (by kernel_rfl) (by kernel_rfl) (by kernel_rfl) (by kernel_rfl) rfl (fun w' hw' => by obtain ⟨r0, r1⟩ := hw'; go_simp) S0 ?_
                    simp only [Act.put, List.setIfInBounds_toArray, List.set_cons_zero, List.set_cons_succ]
                    refine u_take (i := 1) (v := .slice kb kn kc) 128 rfl rfl (by kernel_rfl) (by kernel_rfl) (by kernel_rfl) (by kernel_rfl) rfl (fun w' hw' => by obtain ⟨r0, r1⟩ := hw'; go_simp) S0 ?_
                    simp only [Act.put, List.setIfInBounds_toArray, List.set_cons_zero, List.set_cons_succ]
                    refine u_take (i := 2) (v := .slice (some ⟨gc, 0, none⟩) LC.length cc) 129 rfl rfl (by kernel_rfl) (by kernel_rfl) (by kernel_rfl) (by kernel_rfl) rfl (fun w' hw' => by obtain ⟨r0, r1⟩ := hw'; go_simp) S0 ?_
                    simp only [Act.put, List.setIfInBounds_toArray, List.set_cons_zero, List.set_cons_succ]
                    refine u_take (i := 3) (v := .int .i64 (k : Int)) 130 rfl rfl (by kernel_rfl) (by kernel_rfl) (by kernel_rfl) (by kernel_rfl) rfl (fun w' hw' => by obtain ⟨r0, r1⟩ := hw'; go_simp) S0 ?_
                    simp only [Act.put, List.setIfInBounds_toArray, List.set_cons_zero, List.set_cons_succ]
                    refine u_take (i := 4) (v := .pointer (some ⟨gc, k, none⟩)) 131 rfl rfl (by kernel_rfl) (by kernel_rfl) (by kernel_rfl) (by kernel_rfl) rfl (fun w' hw' => by obtain ⟨r0, r1⟩ := hw'; go_simp) S0 ?_
                    simp only [Act.put, List.setIfInBounds_toArray, List.set_cons_zero, List.set_cons_succ]
                    refine u_take (i := 5) (v := .int .u64 (y : Int)) 132 rfl rfl (by kernel_rfl) (by kernel_rfl) (by kernel_rfl) (by kernel_rfl) rfl (fun w' hw' => by obtain ⟨r0, r1⟩ := hw'; go_simp) S0 ?_
                    simp only [Act.put, List.setIfInBounds_toArray, List.set_cons_zero, List.set_cons_succ]
                    refine u_take (i := 6) (v := .int .u32 (y : Int)) 133 rfl rfl (by kernel_rfl) (by kernel_rfl) (by kernel_rfl) (by kernel_rfl) rfl (fun w' hw' => by obtain ⟨r0, r1⟩ := hw'; go_simp) S0 ?_
                    simp only [Act.put, List.setIfInBounds_toArray, List.set_cons_zero, List.set_cons_succ]
                    refine u_val (i := 7) (v := .slice (some ⟨Vd.heap.size, 0, none⟩) 1 1) (w' := Vd.alloc (.cells #[.int .u32 (y : Int)] 41)) (some 134) (by kernel_rfl) rfl rfl rfl (by go_simp) S1 ?_
                    simp only [Act.put, List.setIfInBounds_toArray, List.set_cons_zero, List.set_cons_succ]
                    refine u_val (i := 8) (v := .slice nb nn nc') (w' := W') (some 135) (by kernel_rfl) rfl rfl rfl (run_append_op rfl rfl rfl HA.out) S4 ?_
                    simp only [Act.put, List.setIfInBounds_toArray, List.set_cons_zero, List.set_cons_succ]
                    refine u_val (i := 9) (v := .pointer (some ⟨gx, 3, none⟩)) (w' := W') (some 136) (by kernel_rfl) rfl rfl rfl (by go_simp) S4 ?_
                    simp only [Act.put, List.setIfInBounds_toArray, List.set_cons_zero, List.set_cons_succ]
                    refine u_last (w' := W'.setCell ⟨gx, 3, none⟩ (.slice nb nn nc')) (by kernel_rfl) rfl rfl rfl (by go_simp) (by kernel_rfl) ?_
                    clear S0 S1 S4 HA c3 f3
                    go_wp2_with fail
                    go_roundw
                    · (repeat apply Exists.intro)
                      refine ⟨?_, rfl⟩
                      exact ⟨k + 1, _, by simp, by omega, fin⟩
                    · simp [intOf]; omega
                  · have hki : ¬ (k : Int) < LC.length := by omega
                    obtain rfl : k = LC.length := by omega
                    obtain ⟨p1, p2, p3, p4⟩ := hq.out
                    rw [List.take_length] at p1
                    have fin : Hid (RSt s w gx vf vp vk' ps { x with picks := x.picks ++ LC } 4 (n + 1) (t + 1) wr) := ⟨p1, p2, p3, HRD2.out, by have := HHN.out.1; show x.progs.length ≤ n + 1; omega, fun p hp => by have := HHN.out.2.1 p hp; omega, by have := HHN.out.2.2; show (x.picks ++ LC).length ≤ t + 1; simp; omega, fun h => by cases h⟩
                    clear hq p1 p2 p3 p4 HRD2 HHN HM HG
                    go_wp2_with fail
                    go_roundw
                    · exact ⟨4, n + 1, t + 1, _, _, _, _, _, by first | rfl | simp, by first | rfl | simp, by first | rfl | simp, by omega, by omega, by omega, fin⟩
                    · simp [intOf]; omega
          · by_cases hth : ln = threadW
            · have HTH : Hid (lineS 3 x ln = some (3, { x with progs := x.progs ++ [[]] })) := lineS_thread (by omega) (fun h => by cases h) hth
              have hbe : (ByteArray.toList ⟨ln.toArray⟩ == [116, 104, 114, 101, 97, 100]) = true := by rw [hth]; simp [threadW]
              generalize ln.toArray = lA at *
              have hsx := HSX.out.keeps HX4.out.2.2.2
              have hzx := HX4.out.2.1
              have hkx := HX4.out.1
              have hls := HTH.out
              have c0 := cell_of_block hsx.box 2
              simp only [List.getElem?_toArray, List.getElem?_cons_zero, List.getElem?_cons_succ] at c0
              obtain ⟨v', W', hrun, hbx, hwk, hsx2, hk2⟩ := hsx.addProg hkx (by have := HGX.out; omega) (by have := hh.out.nprogs; omega)
              obtain ⟨pb2, pn2, pc2, rfl⟩ := own_form hsx2.progs
              rw [World.size_alloc] at hrun
              have HR : Hid (_ = _) := hrun
              have bx2 := hbx.trans hsx.box
              have c2 := cell_of_block bx2 2
              have f2 := frozen_of_block bx2 2
              simp only [List.getElem?_toArray, List.getElem?_cons_zero, List.getElem?_cons_succ] at c2
              have zz : (W'.setCell ⟨gx, 2, none⟩ (.slice pb2 pn2 pc2)).heap[w.heap.size]? = some (.cells #[.int .i64 0, .slice none 0 0, .slice none 0 0, .slice none 0 0] 26 (0, 0)) := (Below.heap_setCell _ _ _ _ (by have := HGX.out; simp; omega)).trans ((hwk _ (lt_of_block hzx) (no_script (by decide) hsx.progs hzx)).trans hzx)
              have fin : Hid (RSt s w gx vf (.slice pb2 pn2 pc2) vk (ps ++ [.slice none 0 0]) { x with progs := x.progs ++ [[]] } 3 (n + 1) (t + 1) (W'.setCell ⟨gx, 2, none⟩ (.slice pb2 pn2 pc2))) :=
                ⟨hsx2, zz, hk2, by rw [HRDH.out, hls], by have := hh.out.nprogs; show (x.progs ++ [[]]).length ≤ n + 1; simp; omega, fun p hp => by
                  rcases List.mem_append.1 hp with hp | hp
                  · have := hh.out.each p hp; omega
                  · simp only [List.mem_singleton] at hp; subst hp; simp, by have := hh.out.npicks; show x.picks.length ≤ t + 1; omega, fun _ => by simp⟩
              clear HBD HSX HNA HNB HNC HKS HX4 hh HRDH HY1 HY2 HY3 HN1 HN2 HN3 HYI HNI
              clear hsx hzx hkx hls hrun hbx hwk bx2 zz hk2 hsx2 HTH
              go_wp2_with (at_builtin; refine wpList_append_run rfl _ _ 23 rfl rfl rfl HR.out ?_)
              go_roundw
              · exact ⟨3, n + 1, t + 1, _, _, _, _, _, by first | rfl | simp, by first | rfl | simp, by first | rfl | simp, by omega, by omega, by omega, fin⟩
              · simp [intOf]; omega
            · have hbe : (ByteArray.toList ⟨ln.toArray⟩ == [116, 104, 114, 101, 97, 100]) = false := by simpa [threadW] using hth
              cases bC
              · cases bI
                · have HLN : Hid (lineS 3 x ln = none) := lineS_no (by omega) (fun h => by cases h) (.inl hth) (.inl (HN3.out rfl)) (fun _ => HNI.out rfl)
                  generalize ln.toArray = lA at *
                  have hR := HBD.out (by rw [HRDH.out, HLN.out])
                  clear HBD HSX HNA HNB HNC HKS HX4 hh HRDH HLN
                  go_wp2_with (refine wpList_store_row' rfl 26 _ _ rfl w.heap.size _ rfl rfl 26 _ BZ.out size_scr rfl (by simp [Value.oneCell']) ?_)
                  refine bodyPost_ret (scr_ret3 rfl _ _ w.heap.size _ _ BZ.out rfl rfl) rfl ?_
                  exact ⟨hR _, kz⟩
                · have hsx := HSX.out.keeps HX4.out.2.2.2
                  have hzx := HX4.out.2.1
                  have hkx := HX4.out.1
                  have hp := HYI.out rfl
                  have HLN : Hid (lineS 3 x ln = some (3, { x with progs := lastPush x.progs ⟨io, ia, ib, ic, iN⟩ })) := lineS_ins hth (HN3.out rfl) hp
                  have hwf : I5.wf ⟨io, ia, ib, ic, iN⟩ := by
                    obtain ⟨q1, _, q3, q4⟩ := text_parse hp
                    obtain ⟨⟨h0, h1⟩, -, ⟨ha0, ha1⟩, ⟨hb0, hb1⟩, ⟨hc0, hc1⟩⟩ := formed_facts q1
                    dsimp only at h0 h1 ha0 ha1 hb0 hb1 hc0 hc1 q3 q4
                    exact ⟨by constructor <;> (dsimp only; omega), by constructor <;> (dsimp only; omega), by constructor <;> (dsimp only; omega), by constructor <;> (dsimp only; omega), q3, q4⟩
                  obtain ⟨m, hm⟩ : ∃ m, x.progs.length = m + 1 := ⟨x.progs.length - 1, by have := List.length_pos_iff.2 (hh.out.three rfl); omega⟩
                  have kd : Keeps (fun _ => False) (w4.alloc (.cells #[.int .i64 io, .int .i64 ia, .int .i64 ib, .int .i64 ic, .int .u64 iN] 45)) (w4.alloc (.cells #[.int .i64 io, .int .i64 ia, .int .i64 ib, .int .i64 ic, .int .u64 iN] 45)).drew := (Keeps.refl _ _).drewN 1
                  have hpl := hh.out.each _ (List.getElem_mem (by omega : m < x.progs.length))
                  obtain ⟨gp, pcap, v', W', rfl, hpc, hcm, hrun, hwk, hngx, hngp, hcu, hfr, hs2, hk2⟩ := (hsx.keeps kd).addIns (hkx.trans kd) ⟨io, ia, ib, ic, iN⟩ hwf m hm (by omega)
                  have hpm : m < ps.length := by rw [HSX.out.plen]; omega
                  have hngi : (ps[m]'hpm).ownBlock ≠ some w4.heap.size := fun e => by have := (own_block (HSX.out.each m hpm (by omega)).own e).1; omega
                  have hnz := no_script (by decide) (hsx.each m hpm (by omega)).own hzx
                  obtain ⟨lb, ll, lc, hps⟩ := own_form (HSX.out.each m hpm (by omega)).own
                  have hvf := own_form (hs2.each m (by simp; omega) (by simp [lastPush]; omega)).own
                  simp only [List.getElem_set_self] at hvf
                  obtain ⟨vb2, vn2, vc2, rfl⟩ := hvf
                  rw [hps] at hcm hrun hwk hngx hngp hngi hnz
                  have hgp : gp ≠ w.heap.size := fun e => (no_script (by decide) hsx.progs hzx) (by rw [e]; rfl)
                  have p2e : (W'.setCell ⟨gp, m, none⟩ (.slice vb2 vn2 vc2)).heap[w.heap.size]? = some (.cells #[.int .i64 0, .slice none 0 0, .slice none 0 0, .slice none 0 0] 26 (0, 0)) := (Below.heap_setCell _ _ _ _ (by simpa using fun e => hgp e.symm)).trans ((hwk _ (lt_of_block (show (w4.alloc (.cells #[.int .i64 io, .int .i64 ia, .int .i64 ib, .int .i64 ic, .int .u64 iN] 45)).drew.heap[w.heap.size]? = _ from hzx)) hnz).trans hzx)
                  have bx : (w4.alloc (.cells #[.int .i64 io, .int .i64 ia, .int .i64 ib, .int .i64 ic, .int .u64 iN] 45)).drew.heap[gx]? = _ := (hsx.keeps kd).box
                  have bx' := (hwk gx (lt_of_block bx) hngx).trans bx
                  have bi : (w4.alloc (.cells #[.int .i64 io, .int .i64 ia, .int .i64 ib, .int .i64 ic, .int .u64 iN] 45)).drew.heap[w4.heap.size]? = some (.cells #[.int .i64 io, .int .i64 ia, .int .i64 ib, .int .i64 ic, .int .u64 iN] 45 (0, 0)) := HX4.out.2.2.1
                  have bi' := (hwk _ (lt_of_block bi) hngi).trans bi
                  have cg := World.block_lt_of_cell? _ _ hcm
                  have cgW : W'.cell? ⟨gp, m, none⟩ = (w4.alloc (.cells #[.int .i64 io, .int .i64 ia, .int .i64 ib, .int .i64 ic, .int .u64 iN] 45)).drew.cell? ⟨gp, m, none⟩ := by simp only [World.cell?, hwk gp cg hngp]
                  have fin : Hid (RSt s w gx vf (.slice (some ⟨gp, 0, none⟩) (m + 1) pcap) vk (ps.set m (.slice vb2 vn2 vc2)) { x with progs := lastPush x.progs ⟨io, ia, ib, ic, iN⟩ } 3 (n + 1) (t + 1) (W'.setCell ⟨gp, m, none⟩ (.slice vb2 vn2 vc2))) :=
                    ⟨hs2, p2e, hk2, by rw [HRDH.out, HLN.out], by have := hh.out.nprogs; show (lastPush x.progs _).length ≤ n + 1; simp [lastPush]; omega, fun p hp => by
                      obtain ⟨q, hq, hqq⟩ := lastPush_len _ _ p hp
                      have := hh.out.each q hq
                      omega, by have := hh.out.npicks; show x.picks.length ≤ t + 1; omega, fun _ e => by
                      have h8 : (lastPush x.progs ⟨io, ia, ib, ic, iN⟩).length = x.progs.length := by simp [lastPush]
                      have h9 : (lastPush x.progs ⟨io, ia, ib, ic, iN⟩).length = 0 := by rw [show lastPush x.progs ⟨io, ia, ib, ic, iN⟩ = [] from e]; rfl
                      omega⟩
                  have c2x := cell_of_block hsx.box 2
                  simp only [List.getElem?_toArray, List.getElem?_cons_zero, List.getElem?_cons_succ] at c2x
                  have hm1 : (m : Int) + 1 - 1 = (m : Int) := by omega
                  have hmc : (m : Int) < pcap := by omega
                  have hmm : (m : Int) ≤ 20001 := by have := hh.out.nprogs; omega
                  have S0 : (fun X : World => X.cell? ⟨gx, 2, none⟩ = some (.slice (some ⟨gp, 0, none⟩) (m + 1) pcap) ∧ X.cell? ⟨gp, m, none⟩ = some (.slice lb ll lc) ∧ X.heap[w4.heap.size]? = some (.cells #[.int .i64 io, .int .i64 ia, .int .i64 ib, .int .i64 ic, .int .u64 iN] 45 (0, 0))) (w4.alloc (.cells #[.int .i64 io, .int .i64 ia, .int .i64 ib, .int .i64 ic, .int .u64 iN] 45)).drew := ⟨by rw [cell_of_block bx]; rfl, hcm, bi⟩
                  have S1 : (fun X : World => X.cell? ⟨gx, 2, none⟩ = some (.slice (some ⟨gp, 0, none⟩) (m + 1) pcap) ∧ X.cell? ⟨gp, m, none⟩ = some (.slice lb ll lc) ∧ X.heap[w4.heap.size]? = some (.cells #[.int .i64 io, .int .i64 ia, .int .i64 ib, .int .i64 ic, .int .u64 iN] 45 (0, 0))) ((w4.alloc (.cells #[.int .i64 io, .int .i64 ia, .int .i64 ib, .int .i64 ic, .int .u64 iN] 45)).drew.alloc (.cells #[.int .i64 io, .int .i64 ia, .int .i64 ib, .int .i64 ic, .int .u64 iN] 45)) := ⟨((Keeps.refl (fun _ => False) (w4.alloc (.cells #[.int .i64 io, .int .i64 ia, .int .i64 ib, .int .i64 ic, .int .u64 iN] 45)).drew).alloc _).cell (fun f => f) S0.1, ((Keeps.refl (fun _ => False) (w4.alloc (.cells #[.int .i64 io, .int .i64 ia, .int .i64 ib, .int .i64 ic, .int .u64 iN] 45)).drew).alloc _).cell (fun f => f) S0.2.1, ((MapKept.heap_alloc (w4.alloc (.cells #[.int .i64 io, .int .i64 ia, .int .i64 ib, .int .i64 ic, .int .u64 iN] 45)).drew _).2 _ (lt_of_block bi)).trans bi⟩
                  have S4 : (fun X : World => X.cell? ⟨gx, 2, none⟩ = some (.slice (some ⟨gp, 0, none⟩) (m + 1) pcap) ∧ X.cell? ⟨gp, m, none⟩ = some (.slice lb ll lc) ∧ X.heap[w4.heap.size]? = some (.cells #[.int .i64 io, .int .i64 ia, .int .i64 ib, .int .i64 ic, .int .u64 iN] 45 (0, 0))) W' := ⟨by rw [cell_of_block bx']; rfl, cgW.trans hcm, bi'⟩
                  have HA : Hid (_ = _) := hrun
                  obtain ⟨cu, hcu⟩ := hcu
                  generalize ln.toArray = lA at *
                  clear HLN
                  clear HBD HSX HNA HNB HNC HKS HX4 hh HRDH HY1 HY2 HY3 HN1 HN2 HN3 HYI HNI
                  clear hsx hzx hkx hp hwf kd hpl hpc hcm hrun hwk hngx hngp hs2 hk2 hpm hngi hnz hps hgp p2e bx bx' bi bi' cg cgW hm
                  go_wp2_with fail
                  refine wp_until (S := (fun X : World => X.cell? ⟨gx, 2, none⟩ = some (.slice (some ⟨gp, 0, none⟩) (m + 1) pcap) ∧ X.cell? ⟨gp, m, none⟩ = some (.slice lb ll lc) ∧ X.heap[w4.heap.size]? = some (.cells #[.int .i64 io, .int .i64 ia, .int .i64 ib, .int .i64 ic, .int .u64 iN] 45 (0, 0)))) 12 13 rfl hmx ?_
                  generalize (w4.alloc (.cells #[.int .i64 io, .int .i64 ia, .int .i64 ib, .int .i64 ic, .int .u64 iN] 45)).drew = Vd at *
                  simp only [Array.replicate_succ, Array.replicate_zero, List.push_toArray, List.nil_append, List.cons_append]
                  refine u_take (i := 0) (v := .pointer (some ⟨gx, 2, none⟩)) 147 rfl rfl (by kernel_rfl) (by kernel_rfl) (by kernel_rfl) (by kernel_rfl) rfl (fun w' hw' => by obtain ⟨r0, r1, r2⟩ := hw'; go_simp) S0 ?_
                  simp only [Act.put, List.setIfInBounds_toArray, List.set_cons_zero, List.set_cons_succ]
                  refine u_take (i := 1) (v := .slice (some ⟨gp, 0, none⟩) (m + 1) pcap) 148 rfl rfl (by kernel_rfl) (by kernel_rfl) (by kernel_rfl) (by kernel_rfl) rfl (fun w' hw' => by obtain ⟨r0, r1, r2⟩ := hw'; go_simp) S0 ?_
                  simp only [Act.put, List.setIfInBounds_toArray, List.set_cons_zero, List.set_cons_succ]
                  refine u_take (i := 2) (v := .int .i64 (m : Int)) 149 rfl rfl (by kernel_rfl) (by kernel_rfl) (by kernel_rfl) (by kernel_rfl) rfl (fun w' hw' => by obtain ⟨r0, r1, r2⟩ := hw'; go_simp) S0 ?_
                  simp only [Act.put, List.setIfInBounds_toArray, List.set_cons_zero, List.set_cons_succ]
                  refine u_take (i := 3) (v := .pointer (some ⟨gx, 2, none⟩)) 150 rfl rfl (by kernel_rfl) (by kernel_rfl) (by kernel_rfl) (by kernel_rfl) rfl (fun w' hw' => by obtain ⟨r0, r1, r2⟩ := hw'; go_simp) S0 ?_
                  simp only [Act.put, List.setIfInBounds_toArray, List.set_cons_zero, List.set_cons_succ]
                  refine u_take (i := 4) (v := .slice (some ⟨gp, 0, none⟩) (m + 1) pcap) 151 rfl rfl (by kernel_rfl) (by kernel_rfl) (by kernel_rfl) (by kernel_rfl) rfl (fun w' hw' => by obtain ⟨r0, r1, r2⟩ := hw'; go_simp) S0 ?_
                  simp only [Act.put, List.setIfInBounds_toArray, List.set_cons_zero, List.set_cons_succ]
                  refine u_take (i := 5) (v := .int .i64 (m : Int)) 152 rfl rfl (by kernel_rfl) (by kernel_rfl) (by kernel_rfl) (by kernel_rfl) rfl (fun w' hw' => by obtain ⟨r0, r1, r2⟩ := hw'; go_simp) S0 ?_
                  simp only [Act.put, List.setIfInBounds_toArray, List.set_cons_zero, List.set_cons_succ]
                  refine u_take (i := 6) (v := .pointer (some ⟨gp, m, none⟩)) 153 rfl rfl (by kernel_rfl) (by kernel_rfl) (by kernel_rfl) (by kernel_rfl) rfl (fun w' hw' => by obtain ⟨r0, r1, r2⟩ := hw'; go_simp; intro hh9; omega) S0 ?_
                  simp only [Act.put, List.setIfInBounds_toArray, List.set_cons_zero, List.set_cons_succ]
                  refine u_take (i := 7) (v := .slice lb ll lc) 154 rfl rfl (by kernel_rfl) (by kernel_rfl) (by kernel_rfl) (by kernel_rfl) rfl (fun w' hw' => by obtain ⟨r0, r1, r2⟩ := hw'; go_simp) S0 ?_
                  simp only [Act.put, List.setIfInBounds_toArray, List.set_cons_zero, List.set_cons_succ]
                  refine u_take (i := 8) (v := .agg #[.int .i64 io, .int .i64 ia, .int .i64 ib, .int .i64 ic, .int .u64 iN]) 155 rfl rfl (by kernel_rfl) (by kernel_rfl) (by kernel_rfl) (by kernel_rfl) rfl (fun w' hw' => run_load_opS rfl w4.heap.size rfl 45 _ (0, 0) _ hw'.2.2 Tryz.underlying45 rfl (by rw [size_ins]; rfl)) S0 ?_
                  simp only [Act.put, List.setIfInBounds_toArray, List.set_cons_zero, List.set_cons_succ]
                  refine u_val (i := 9) (v := .slice (some ⟨Vd.heap.size, 0, none⟩) 1 1) (w' := Vd.alloc (.cells #[.int .i64 io, .int .i64 ia, .int .i64 ib, .int .i64 ic, .int .u64 iN] 45)) (some 156) (by kernel_rfl) rfl rfl rfl (by go_simp) S1 ?_
                  simp only [Act.put, List.setIfInBounds_toArray, List.set_cons_zero, List.set_cons_succ]
                  refine u_val (i := 10) (v := .slice vb2 vn2 vc2) (w' := W') (some 157) (by kernel_rfl) rfl rfl rfl (run_append_op rfl rfl rfl HA.out) S4 ?_
                  simp only [Act.put, List.setIfInBounds_toArray, List.set_cons_zero, List.set_cons_succ]
                  refine u_val (i := 11) (v := .pointer (some ⟨gp, m, none⟩)) (w' := W') (some 158) (by kernel_rfl) rfl rfl rfl (by go_simp; intro hh9; omega) S4 ?_
                  simp only [Act.put, List.setIfInBounds_toArray, List.set_cons_zero, List.set_cons_succ]
                  refine u_last (w' := W'.setCell ⟨gp, m, none⟩ (.slice vb2 vn2 vc2)) (by kernel_rfl) rfl rfl rfl (by go_simp) (by kernel_rfl) ?_
                  clear S0 S1 S4 HA hcu hfr c2x
                  go_wp2_with fail
                  go_roundw
                  · exact ⟨3, n + 1, t + 1, _, _, _, _, _, by first | rfl | simp, by first | rfl | simp, by first | rfl | simp, by omega, by omega, by omega, fin⟩
                  · simp [intOf]; omega
              · have hsx := HSX.out.keeps HX4.out.2.2.2
                have hzx := HX4.out.2.1
                have hkx := HX4.out.1
                have hw := HY3.out rfl
                have HLN : Hid (lineS 3 x ln = some (4, { x with picks := x.picks ++ LC })) := lineS_picks (by omega) (fun h => by cases h) hth hw
                have hlc := wordsM_len hw
                have HM : Hid (∀ q ∈ LC, q ≤ m32) := wordsM_le hw
                have hnc := HNC.out.keeps HX4.out.2.2.2 (fun _ _ f => f)
                have HG : Hid (0 < LC.length → ∃ gc, vc = some ⟨gc, 0, none⟩ ∧ LC.length ≤ cc) := fun h => by
                  obtain ⟨gc, cap, e, hcap, _⟩ := row1_at HNC.out.own h
                  simp only [Value.slice.injEq] at e
                  exact ⟨gc, e.1, by rw [e.2.2]; exact hcap⟩
                have ST0 : Hid (Sx (w4.alloc (.cells #[.int .i64 io, .int .i64 ia, .int .i64 ib, .int .i64 ic, .int .u64 iN] 45)) w.heap.size gx vf vp vk ps { x with picks := x.picks ++ LC.take 0 } ∧ (w4.alloc (.cells #[.int .i64 io, .int .i64 ia, .int .i64 ib, .int .i64 ic, .int .u64 iN] 45)).heap[w.heap.size]? = some (.cells #[.int .i64 0, .slice none 0 0, .slice none 0 0, .slice none 0 0] 26 (0, 0)) ∧ Keeps (fun _ => False) w (w4.alloc (.cells #[.int .i64 io, .int .i64 ia, .int .i64 ib, .int .i64 ic, .int .u64 iN] 45)) ∧ Nums (w4.alloc (.cells #[.int .i64 io, .int .i64 ia, .int .i64 ib, .int .i64 ic, .int .u64 iN] 45)) w2.heap.size (.slice vc LC.length cc) LC) := ⟨by simpa using hsx, hzx, hkx, hnc⟩
                have HHN : Hid (x.progs.length ≤ n ∧ (∀ p ∈ x.progs, p.length ≤ n) ∧ x.picks.length ≤ f) := ⟨hh.out.nprogs, hh.out.each, hh.out.npicks⟩
                have HRD2 : Hid (readS 0 sc0 0 (linesL s) = readS 4 { x with picks := x.picks ++ LC } (n + 1) (linesL (s.drop (t + 1)))) := by unfold Hid; rw [HRDH.out, HLN.out]
                generalize ln.toArray = lA at *
                clear HLN
                clear HBD HSX HNA HNB HNC HKS HX4 hh HRDH HY1 HY2 HY3 HN1 HN2 HN3 HYI HNI
                clear hsx hzx hkx hw hnc
                go_wp2_with fail
                go_loopw [19] (fun a19 wq => ∃ (k : Nat) (vk' : Value), a19 = .int .i64 (k : Int) ∧ k ≤ LC.length ∧ Hid (Sx wq w.heap.size gx vf vp vk' ps { x with picks := x.picks ++ LC.take k } ∧ wq.heap[w.heap.size]? = some (.cells #[.int .i64 0, .slice none 0 0, .slice none 0 0, .slice none 0 0] 26 (0, 0)) ∧ Keeps (fun _ => False) w wq ∧ Nums wq w2.heap.size (.slice vc LC.length cc) LC)) (fun a19 _ => LC.length - (intOf a19).toNat)
                case atStart => exact ⟨0, vk, rfl, Nat.zero_le _, ST0⟩
                case round =>
                  obtain ⟨k, vk', rfl, hk, hq⟩ := hrel
                  clear ST0
                  by_cases hkl : k < LC.length
                  · have hki : (k : Int) < LC.length := by omega
                    obtain ⟨gc, rfl, hcc⟩ := HG.out (by omega)
                    obtain ⟨p1, p2, p3, p4⟩ := hq.out
                    have kd : Keeps (fun _ => False) wr wr.drew := (Keeps.refl _ _).drewN 1
                    have p1d := p1.keeps kd
                    have p3d := p3.trans kd
                    have p4d := p4.keeps kd (fun _ _ f => f)
                    have p2d : wr.drew.heap[w.heap.size]? = some (.cells #[.int .i64 0, .slice none 0 0, .slice none 0 0, .slice none 0 0] 26 (0, 0)) := p2
                    have hym := HM.out _ (List.getElem_mem hkl)
                    obtain ⟨gc2, cap', e1, _, hcell⟩ := row1_at p4d.own (by omega)
                    simp only [Value.slice.injEq, Option.some.injEq, Addr.mk.injEq] at e1
                    obtain ⟨⟨rfl, -⟩, -, rfl⟩ := e1
                    have cy := hcell k _ hkl (by simp [hkl]; rfl)
                    obtain ⟨v', W', hrun, hwk, hngx, hs2, hk2, hkk⟩ := p1d.addPick p3d (by have := HGX.out; omega) (LC[k]) (by have := HHN.out.2.2; simp; omega)
                    have hngc : vk'.ownBlock ≠ some gc := fun e => by
                      obtain ⟨c1, q1⟩ := own_typed p1d.picks.own e
                      obtain ⟨c2, q2⟩ := own_typed p4d.own (g := gc) rfl
                      rw [q1] at q2
                      simp only [Option.some.injEq, Obj.cells.injEq] at q2
                      exact absurd q2.2.1 (by decide)
                    have hgcx : gc ≠ gx := fun e => by
                      subst e
                      obtain ⟨c2, q2⟩ := own_typed p4d.own (g := gc) rfl
                      rw [p1d.box] at q2
                      simp only [Option.some.injEq, Obj.cells.injEq] at q2
                      exact absurd q2.2.1 (by decide)
                    have p4e := p4d.keeps hkk (fun g e f => by
                      cases e
                      rcases f with f | f
                      · exact hgcx f
                      · exact hngc f)
                    have p2e : (W'.setCell ⟨gx, 3, none⟩ v').heap[w.heap.size]? = some (.cells #[.int .i64 0, .slice none 0 0, .slice none 0 0, .slice none 0 0] 26 (0, 0)) := (Below.heap_setCell _ _ _ _ (by have := HGX.out; simp; omega)).trans ((hwk _ (lt_of_block p2d) (no_script (by decide) p1d.picks.own p2d)).trans p2d)
                    have htk : LC.take (k + 1) = LC.take k ++ [LC[k]] := List.take_succ_eq_append_getElem hkl
                    obtain ⟨nb, nn, nc', rfl⟩ := own_form hs2.picks.own
                    have fin : Hid (Sx (W'.setCell ⟨gx, 3, none⟩ (.slice nb nn nc')) w.heap.size gx vf vp (.slice nb nn nc') ps { x with picks := x.picks ++ LC.take (k + 1) } ∧ (W'.setCell ⟨gx, 3, none⟩ (.slice nb nn nc')).heap[w.heap.size]? = some (.cells #[.int .i64 0, .slice none 0 0, .slice none 0 0, .slice none 0 0] 26 (0, 0)) ∧ Keeps (fun _ => False) w (W'.setCell ⟨gx, 3, none⟩ (.slice nb nn nc')) ∧ Nums (W'.setCell ⟨gx, 3, none⟩ (.slice nb nn nc')) w2.heap.size (.slice (some ⟨gc, 0, none⟩) LC.length cc) LC) := ⟨by rw [htk, ← List.append_assoc]; exact hs2, p2e, hk2, p4e⟩
                    obtain ⟨kb, kn, kc, rfl⟩ := own_form p1d.picks.own
                    have bx := p1d.box
                    have bx' := (hwk gx (lt_of_block bx) hngx).trans bx
                    have cg := World.block_lt_of_cell? _ _ cy
                    have cyW : W'.cell? ⟨gc, k, none⟩ = wr.drew.cell? ⟨gc, k, none⟩ := by simp only [World.cell?, hwk gc cg hngc]
                    generalize LC[k] = y at *
                    have hyw : IntKind.u32.wrap (y : Int) = (y : Int) := by unfold m32 at hym; simp [IntKind.wrap, IntKind.signed, IntKind.bits]; omega
                    have S0 : (fun X : World => X.cell? ⟨gx, 3, none⟩ = some (.slice kb kn kc) ∧ X.cell? ⟨gc, k, none⟩ = some (.int .u64 (y : Int))) wr.drew := ⟨by rw [cell_of_block bx]; rfl, cy⟩
                    have S1 : (fun X : World => X.cell? ⟨gx, 3, none⟩ = some (.slice kb kn kc) ∧ X.cell? ⟨gc, k, none⟩ = some (.int .u64 (y : Int))) (wr.drew.alloc (.cells #[.int .u32 (y : Int)] 41)) := ⟨((Keeps.refl (fun _ => False) wr.drew).alloc _).cell (fun f => f) S0.1, ((Keeps.refl (fun _ => False) wr.drew).alloc _).cell (fun f => f) S0.2⟩
                    have S4 : (fun X : World => X.cell? ⟨gx, 3, none⟩ = some (.slice kb kn kc) ∧ X.cell? ⟨gc, k, none⟩ = some (.int .u64 (y : Int))) W' := ⟨by rw [cell_of_block bx']; rfl, cyW.trans cy⟩
                    have c3 := cell_of_block bx' 3
                    have f3 := frozen_of_block bx' 3
                    simp only [List.getElem?_toArray, List.getElem?_cons_zero, List.getElem?_cons_succ] at c3
                    have HA : Hid (_ = _) := hrun
                    clear hq p1 p2 p3 p4 p1d p2d p3d p4d kd hcell hrun hwk hngx hs2 hk2 hkk hngc hgcx p4e p2e htk bx bx' cg cyW cy HRD2 HHN HM HG hym
                    go_wp2_with fail
                    refine wp_until (S := (fun X : World => X.cell? ⟨gx, 3, none⟩ = some (.slice kb kn kc) ∧ X.cell? ⟨gc, k, none⟩ = some (.int .u64 (y : Int)))) 10 11 rfl hmx ?_
                    generalize wr.drew = Vd at *
                    simp only [Array.replicate_succ, Array.replicate_zero, List.push_toArray, List.nil_append, List.cons_append]
                    refine u_take (i := 0) (v := .pointer (some ⟨gx, 3, none⟩)) 127 rfl rfl (by kernel_rfl) (by kernel_rfl) (by kernel_rfl) (by kernel_rfl) rfl (fun w' hw' => by obtain ⟨r0, r1⟩ := hw'; go_simp) S0 ?_
                    simp only [Act.put, List.setIfInBounds_toArray, List.set_cons_zero, List.set_cons_succ]
                    refine u_take (i := 1) (v := .slice kb kn kc) 128 rfl rfl (by kernel_rfl) (by kernel_rfl) (by kernel_rfl) (by kernel_rfl) rfl (fun w' hw' => by obtain ⟨r0, r1⟩ := hw'; go_simp) S0 ?_
                    simp only [Act.put, List.setIfInBounds_toArray, List.set_cons_zero, List.set_cons_succ]
                    refine u_take (i := 2) (v := .slice (some ⟨gc, 0, none⟩) LC.length cc) 129 rfl rfl (by kernel_rfl) (by kernel_rfl) (by kernel_rfl) (by kernel_rfl) rfl (fun w' hw' => by obtain ⟨r0, r1⟩ := hw'; go_simp) S0 ?_
                    simp only [Act.put, List.setIfInBounds_toArray, List.set_cons_zero, List.set_cons_succ]
                    refine u_take (i := 3) (v := .int .i64 (k : Int)) 130 rfl rfl (by kernel_rfl) (by kernel_rfl) (by kernel_rfl) (by kernel_rfl) rfl (fun w' hw' => by obtain ⟨r0, r1⟩ := hw'; go_simp) S0 ?_
                    simp only [Act.put, List.setIfInBounds_toArray, List.set_cons_zero, List.set_cons_succ]
                    refine u_take (i := 4) (v := .pointer (some ⟨gc, k, none⟩)) 131 rfl rfl (by kernel_rfl) (by kernel_rfl) (by kernel_rfl) (by kernel_rfl) rfl (fun w' hw' => by obtain ⟨r0, r1⟩ := hw'; go_simp) S0 ?_
                    simp only [Act.put, List.setIfInBounds_toArray, List.set_cons_zero, List.set_cons_succ]
                    refine u_take (i := 5) (v := .int .u64 (y : Int)) 132 rfl rfl (by kernel_rfl) (by kernel_rfl) (by kernel_rfl) (by kernel_rfl) rfl (fun w' hw' => by obtain ⟨r0, r1⟩ := hw'; go_simp) S0 ?_
                    simp only [Act.put, List.setIfInBounds_toArray, List.set_cons_zero, List.set_cons_succ]
                    refine u_take (i := 6) (v := .int .u32 (y : Int)) 133 rfl rfl (by kernel_rfl) (by kernel_rfl) (by kernel_rfl) (by kernel_rfl) rfl (fun w' hw' => by obtain ⟨r0, r1⟩ := hw'; go_simp) S0 ?_
                    simp only [Act.put, List.setIfInBounds_toArray, List.set_cons_zero, List.set_cons_succ]
                    refine u_val (i := 7) (v := .slice (some ⟨Vd.heap.size, 0, none⟩) 1 1) (w' := Vd.alloc (.cells #[.int .u32 (y : Int)] 41)) (some 134) (by kernel_rfl) rfl rfl rfl (by go_simp) S1 ?_
                    simp only [Act.put, List.setIfInBounds_toArray, List.set_cons_zero, List.set_cons_succ]
                    refine u_val (i := 8) (v := .slice nb nn nc') (w' := W') (some 135) (by kernel_rfl) rfl rfl rfl (run_append_op rfl rfl rfl HA.out) S4 ?_
                    simp only [Act.put, List.setIfInBounds_toArray, List.set_cons_zero, List.set_cons_succ]
                    refine u_val (i := 9) (v := .pointer (some ⟨gx, 3, none⟩)) (w' := W') (some 136) (by kernel_rfl) rfl rfl rfl (by go_simp) S4 ?_
                    simp only [Act.put, List.setIfInBounds_toArray, List.set_cons_zero, List.set_cons_succ]
                    refine u_last (w' := W'.setCell ⟨gx, 3, none⟩ (.slice nb nn nc')) (by kernel_rfl) rfl rfl rfl (by go_simp) (by kernel_rfl) ?_
                    clear S0 S1 S4 HA c3 f3
                    go_wp2_with fail
                    go_roundw
                    · (repeat apply Exists.intro)
                      refine ⟨?_, rfl⟩
                      exact ⟨k + 1, _, by simp, by omega, fin⟩
                    · simp [intOf]; omega
                  · have hki : ¬ (k : Int) < LC.length := by omega
                    obtain rfl : k = LC.length := by omega
                    obtain ⟨p1, p2, p3, p4⟩ := hq.out
                    rw [List.take_length] at p1
                    have fin : Hid (RSt s w gx vf vp vk' ps { x with picks := x.picks ++ LC } 4 (n + 1) (t + 1) wr) := ⟨p1, p2, p3, HRD2.out, by have := HHN.out.1; show x.progs.length ≤ n + 1; omega, fun p hp => by have := HHN.out.2.1 p hp; omega, by have := HHN.out.2.2; show (x.picks ++ LC).length ≤ t + 1; simp; omega, fun h => by cases h⟩
                    clear hq p1 p2 p3 p4 HRD2 HHN HM HG
                    go_wp2_with fail
                    go_roundw
                    · exact ⟨4, n + 1, t + 1, _, _, _, _, _, by first | rfl | simp, by first | rfl | simp, by first | rfl | simp, by omega, by omega, by omega, fin⟩
                    · simp [intOf]; omega
          · have HLN : Hid (lineS 4 x ln = none) := lineS_no (by omega) (fun h => by cases h) (.inr (by omega)) (.inr (by omega)) (fun h => by cases h)
            have hR := HBD.out (by rw [HRDH.out, HLN.out])
            clear HBD HSX HNA HNB HNC HKS HX4 hh HRDH HLN
            go_wp2_with (refine wpList_store_row' rfl 26 _ _ rfl w.heap.size _ rfl rfl 26 _ BZ.out size_scr rfl (by simp [Value.oneCell']) ?_)
            refine bodyPost_ret (scr_ret3 rfl _ _ w.heap.size _ _ BZ.out rfl rfl) rfl ?_
            exact ⟨hR _, kz⟩
        · have hte : t = s.length := by omega
          subst hte
          have hR := HBD.out (HL3.out rfl)
          clear HL2 HL3 HBD HSX HNA HNB HNC HKS HX4 hh
          go_wp2_with (refine wpList_store_row' rfl 26 _ _ rfl w.heap.size _ rfl rfl 26 _ BZ.out size_scr rfl (by simp [Value.oneCell']) ?_)
          refine bodyPost_ret (scr_ret3 rfl _ _ w.heap.size _ _ BZ.out rfl rfl) rfl ?_
          exact ⟨hR _, kz⟩
      · go_loopw [9] (fun a9 wt => ∃ t : Nat, a9 = .int .i64 (t : Int) ∧ f ≤ t ∧ t ≤ s.length ∧ wt = wr ∧ Hid (∀ j (hj : j < s.length), f ≤ j → j < t → s[j] ≠ 10)) (fun a9 _ => s.length - (intOf a9).toNat)
        case atStart => exact ⟨f, rfl, Nat.le_refl _, by omega, rfl, fun j _ h1 h2 => absurd h1 (by omega)⟩
        case round =>
          obtain ⟨t, rfl, ht1, ht2, rfl, hq⟩ := hrel
          by_cases htl : t < s.length
          · have hti : (t : Int) < s.length := by omega
            have htb : t < (⟨s.toArray⟩ : ByteArray).size := by rw [hsz]; exact htl
            have hat : ((⟨s.toArray⟩ : ByteArray)[t]'htb).toNat = (s[t]).toNat := rfl
            by_cases hc : s[t] = 10
            · have HJ : Hid (∀ h : t < s.length, s[t] = 10) := fun _ => hc
              rw [hc, show (10 : UInt8).toNat = 10 from rfl] at hat
              clear hh HBAD hc HW1 HW2 HW3
              go_wp2_with fail
              refine ⟨by first | trivial | rfl, ?_⟩
              repeat apply Exists.intro
              exact ⟨⟨t, rfl, ht1, ht2, by first | rfl | trivial, hq, HJ⟩, rfl⟩
            · have hcn : (s[t]).toNat ≠ 10 := fun h => hc (UInt8.toNat.inj (by rw [h]; rfl))
              have hn : Hid (∀ j (hj : j < s.length), f ≤ j → j < t + 1 → s[j] ≠ 10) := fun j hj h1 h2 => by
                by_cases hjt : j = t
                · subst hjt; exact hc
                · exact hq.out j hj h1 (by omega)
              generalize (s[t]).toNat = x at *
              have hbe : ((x : Int) != 10) = true := by simp; omega
              clear hh HBAD hq hc HW1 HW2 HW3
              go_wp2_with fail
              go_roundw
              · exact ⟨t + 1, by simp, by omega, by omega, by first | rfl | trivial, hn⟩
              · simp [intOf]; omega
          · have hti : ¬ (t : Int) < s.length := by omega
            have HJ : Hid (∀ h : t < s.length, s[t] = 10) := fun h => absurd h htl
            clear hh HBAD HW1 HW2 HW3
            go_wp2_with fail
            refine ⟨by first | trivial | rfl, ?_⟩
            repeat apply Exists.intro
            exact ⟨⟨t, rfl, ht1, ht2, by first | rfl | trivial, hq, HJ⟩, rfl⟩
    · have hfi : ¬ (f : Int) < s.length := by omega
      have hnil : linesL (s.drop f) = [] := by rw [List.drop_eq_nil_of_le (by omega)]; rfl
      have HR0 : Hid (readS 0 sc0 0 (linesL s) = readS st x n []) := by unfold Hid; rw [hh.out.reads, hnil]
      obtain ⟨b1, n1, c1, rfl⟩ := own_form hh.out.rows.first.own
      obtain ⟨b2, n2, c2, rfl⟩ := own_form hh.out.rows.progs
      obtain ⟨b3, n3, c3, rfl⟩ := own_form hh.out.rows.picks.own
      have BZ : Hid (_ = _) := hh.out.zero
      have BX : Hid (_ = _) := hh.out.rows.box
      have kk := hh.out.kept
      by_cases h0 : st = 0
      · subst h0
        have hR := fun W => HBAD.out n W (by rw [HR0.out]; rfl)
        have kz := kk.row (Nat.le_refl w.heap.size) #[.int .i64 0, .slice none 0 0, .slice none 0 0, .slice none 0 0]
        clear HBAD HOK HW1 HW2 HW3 hh HR0 hnil
        go_wp2_with (refine wpList_store_row' rfl 26 _ _ rfl w.heap.size _ rfl rfl 26 _ BZ.out size_scr rfl (by simp [Value.oneCell']) ?_)
        refine bodyPost_ret (scr_ret3 rfl _ _ w.heap.size _ _ BZ.out rfl rfl) rfl ?_
        exact ⟨hR _, kz⟩
      · have hsi : ((st : Int) == 0) = false := by simp; omega
        have hR := HOK.out n x gx _ _ _ ps _ (by rw [HR0.out, readS, if_neg h0]) (hh.out.rows.res hh.out.zero (by have := HGX.out; omega) #[.int .i64 (x.cells : Int), .slice b1 n1 c1, .slice b2 n2 c2, .slice b3 n3 c3])
        have kz := kk.row (Nat.le_refl w.heap.size) #[.int .i64 (x.cells : Int), .slice b1 n1 c1, .slice b2 n2 c2, .slice b3 n3 c3]
        clear HBAD HOK HW1 HW2 HW3 hh HR0 hnil
        go_wp2_with (first
          | (refine wpList_load_row rfl 26 _ rfl gx rfl 26 _ (0, 0) _ BX.out Tryz.underlying26 rfl (by rw [size_scr]; rfl) ?_)
          | (refine wpList_store_row' rfl 26 _ _ rfl w.heap.size _ rfl rfl 26 _ BZ.out size_scr rfl (by simp [Value.oneCell']) ?_))
        refine bodyPost_ret (scr_ret3 rfl _ _ w.heap.size _ _ BZ.out rfl rfl) rfl ?_
        exact ⟨hR, kz⟩
end Go.Proofs.YtppejcfghlpbjaaGreatDoor
