
/-
  Step of the program's attempts: look, store, free, by the state. No statement of the seat is proved here.
-/
import Derived.Test.YtmhinalgjfiliaaDoorAtJ
namespace Go.Proofs.YtmhinalgjfiliaaDoor
open Go.RowKit Go.Shelf

section
variable {w : World} {a rr dr : Nat} {R : Sh} {L : List (Int × Int)} {Or Od : Nat → Prop} {S : Sd} {ws : List Int} {x : Int}
theorem ph_cell {k : Int} (hp : S.ph = k) : (attV a R.rb R.ck rr dr S)[5]? = some (.int .i64 k) := by rw [← hp]; rfl
theorem turnV_A (o y k d z : Int) (ow : Bool) : turnV o y k d z ow = .agg (turnA o y k d z ow) := rfl
/-- The result's block, behind an attempt that stands. -/
theorem On.res (h : On w a R rr dr L Or Od S ws x) {W : World} (hl : Like W (w.alloc (.cells zeroT 39))) : On W a R rr dr L Or Od S ws x ∧ W.heap[w.heap.size]? = some (.cells zeroT 39 (0, 0)) ∧ Keeps (fun _ => False) w W ∧ W.heap.size = w.heap.size + 1 := by
  have k0 := hl.keeps (Keeps.al w (.cells zeroT 39))
  exact ⟨h.up k0, by rw [hl.heap]; exact alloc_block w _, k0, by rw [hl.heap]; simp⟩

theorem st_look (h : On w a R rr dr L Or Od S ws S.sn) (hp : S.ph = 3) (hm : S.rd.length < 1024) :
    Calls Tryd.prog 16 #[.pointer (some ⟨a, 0, none⟩)] w fun e w' =>
      e = .returned (.tuple #[turnV 2 S.wo 2 S.ad S.wo false, .int .i64 0]) ∧ ∃ Or', On w' a R rr dr L Or' Od ((S.reads (S.rd ++ [(S.ad, S.wo)])).to 1 0 0 0 0 0) ws S.sn ∧ (∀ q, Or' q → Or q ∨ w.heap.size ≤ q) ∧ Keeps (Both a Or Od R) w w' := by
  have hf := h.far (Nat.le_refl w.heap.size)
  refine step_look a _ (turnA 2 S.wo 2 S.ad S.wo false) 0 (fun W => ∃ Or', On W a R rr dr L Or' Od ((S.reads (S.rd ++ [(S.ad, S.wo)])).to 1 0 0 0 0 0) ws S.sn ∧ (∀ q, Or' q → Or q ∨ w.heap.size + 1 ≤ q) ∧ Keeps (Both a Or Od R) w W) _ w h.at_.box (ph_cell hp) rfl rfl (turnA_one _ _ _ _ _ _) (fun W hl => ?_) (fun W hW => ?_)
  · obtain ⟨q1, q2, q3, q4⟩ := h.res hl
    exact (look_yes a rr dr R L Or Od S ws W q1 hm).mono fun e W' ⟨h1, Or', h2, h3, h4⟩ => ⟨h1, h4.old q2 hf, Or', h2, fun q hq => (h3 q hq).imp id (fun e => by omega), q3.up.trans h4⟩
  · obtain ⟨Or', h2, h3, h4⟩ := hW
    refine ⟨Or', h2.row (fun q hq e => ?_) _, fun q hq => (h3 q hq).imp id (fun e => by omega), h4.row (Nat.le_refl _) _⟩
    rcases hq with (hq | hq | hq) | hq
    · exact hf (e ▸ .inl (.inl hq))
    · rcases h3 q hq with e' | e'
      · exact hf (e ▸ .inl (.inr (.inl e')))
      · omega
    · exact hf (e ▸ .inl (.inr (.inr hq)))
    · exact hf (e ▸ .inr hq)
theorem st_store_more (h : On w a R rr dr L Or Od S ws x) (hp : S.ph = 8) (i : Nat) (d y : Int) (hl : S.pl = (i : Int)) (hi : S.wr[i]? = some (d, y)) (hd : 0 ≤ d) (hn : i + 1 < S.wr.length) (hM : S.wr.length ≤ 1024) :
    Calls Tryd.prog 16 #[.pointer (some ⟨a, 0, none⟩)] w fun e w' =>
      e = .returned (.tuple #[turnV 1 0 0 0 0 false, .int .i64 0]) ∧ On w' a R rr dr L Or Od (S.to 8 0 0 0 0 ((i : Int) + 1)) (C.putAt ws d y) x ∧ Keeps (Both a Or Od R) w w' := by
  have hf := h.far (Nat.le_refl w.heap.size)
  refine step_store a _ (turnA 1 0 0 0 0 false) 0 (fun W => On W a R rr dr L Or Od (S.to 8 0 0 0 0 ((i : Int) + 1)) (C.putAt ws d y) x ∧ Keeps (Both a Or Od R) w W) _ w h.at_.box (ph_cell hp) rfl rfl (turnA_one _ _ _ _ _ _) (fun W hl' => ?_) (fun W hW => ⟨hW.1.row (b := w.heap.size) (fun q hq e => hf (e ▸ hq)) _, hW.2.row (Nat.le_refl _) _⟩)
  obtain ⟨q1, q2, q3, q4⟩ := h.res hl'
  have he := h.at_.eq
  exact (store_more a rr dr R L Or Od S ws x i d y W q1 hl (by rw [he]; exact hi) hd (by rw [he]; exact hn) (by rw [he]; exact hM)).mono fun e W' ⟨h1, h2, h4⟩ => ⟨h1, h4.old q2 hf, h2, q3.up.trans h4⟩
theorem st_store_last (h : On w a R rr dr L Or Od S ws x) (hp : S.ph = 8) (i : Nat) (d y : Int) (hl : S.pl = (i : Int)) (hi : S.wr[i]? = some (d, y)) (hd : 0 ≤ d) (hn : i + 1 = S.wr.length) (hM : S.wr.length ≤ 1024) :
    Calls Tryd.prog 16 #[.pointer (some ⟨a, 0, none⟩)] w fun e w' =>
      e = .returned (.tuple #[turnV 1 0 0 0 0 false, .int .i64 0]) ∧ On w' a R rr dr L Or Od (S.to 9 0 0 0 0 0) (C.putAt ws d y) x ∧ Keeps (Both a Or Od R) w w' := by
  have hf := h.far (Nat.le_refl w.heap.size)
  refine step_store a _ (turnA 1 0 0 0 0 false) 0 (fun W => On W a R rr dr L Or Od (S.to 9 0 0 0 0 0) (C.putAt ws d y) x ∧ Keeps (Both a Or Od R) w W) _ w h.at_.box (ph_cell hp) rfl rfl (turnA_one _ _ _ _ _ _) (fun W hl' => ?_) (fun W hW => ⟨hW.1.row (b := w.heap.size) (fun q hq e => hf (e ▸ hq)) _, hW.2.row (Nat.le_refl _) _⟩)
  obtain ⟨q1, q2, q3, q4⟩ := h.res hl'
  have he := h.at_.eq
  exact (store_last a rr dr R L Or Od S ws x i d y W q1 hl (by rw [he]; exact hi) hd (by rw [he]; exact hn) (by rw [he]; exact hM)).mono fun e W' ⟨h1, h2, h4⟩ => ⟨h1, h4.old q2 hf, h2, q3.up.trans h4⟩
theorem st_free (h : On w a R rr dr L Or Od S ws x) (hp : S.ph = 9) (h0 : 0 ≤ S.sn) (h1 : S.sn < 18446744073709551616) (he : S.sn % 2 = 0) :
    Calls Tryd.prog 16 #[.pointer (some ⟨a, 0, none⟩)] w fun e w' =>
      e = .returned (.tuple #[turnV 4 0 6 0 (C.upw S.sn 2 / 2) false, .int .i64 0]) ∧ w'.heap[a]? = some (.cells overV 80 (0, 0)) ∧ ShAt w' R ws (if x == C.upw S.sn 1 then C.upw S.sn 2 else x) ∧ Keeps (Both a Or Od R) w w' := by
  have hf := h.far (Nat.le_refl w.heap.size)
  have hlt := lt_of_block h.at_.box
  refine step_free a _ (turnA 4 0 6 0 (C.upw S.sn 2 / 2) false) 0 (fun W => W.heap[a]? = some (.cells overV 80 (0, 0)) ∧ ShAt W R ws (if x == C.upw S.sn 1 then C.upw S.sn 2 else x) ∧ Keeps (Both a Or Od R) w W) _ w h.at_.box (ph_cell hp) rfl rfl (turnA_one _ _ _ _ _ _) (fun W hl' => ?_) (fun W hW => ⟨(setRow_keeps' (w := W) (a := w.heap.size) _).old hW.1 (by omega), hW.2.1.kept (T := fun q => q = w.heap.size) (setRow_keeps' _) (fun q hq e => hf (e ▸ .inr hq)), hW.2.2.row (Nat.le_refl _) _⟩)
  obtain ⟨q1, q2, q3, q4⟩ := h.res hl'
  exact (free_at a rr dr R L Or Od S ws x W q1 h0 h1 he).mono fun e W' ⟨h1, h2, h3, h4⟩ => ⟨h1, h4.old q2 hf, h2, h3, q3.up.trans h4⟩
end

/-- An attempt of one's own, with a Turn's block beside it: all is new since w. -/
structure Kn (w W : World) (g : Nat) (cs : Array Value) (a : Nat) (R : Sh) (rr dr : Nat) (L : List (Int × Int)) (Or Od : Nat → Prop) (S : Sd) (ws : List Int) (x : Int) : Prop where
  on : On W a R rr dr L Or Od S ws x
  tz : Tz W
  new : ∀ q, Both a Or Od R q → w.heap.size ≤ q
  pos : 0 < w.heap.size
  kp : Keeps (fun _ => False) w W
  hg : W.heap[g]? = some (.cells cs 39 (0, 0))
  nf : ¬ Both a Or Od R g
  ge : w.heap.size ≤ g
section
variable {w W W' : World} {g : Nat} {cs : Array Value} {a rr dr : Nat} {R : Sh} {L L' : List (Int × Int)} {Or Od Or' Od' : Nat → Prop} {S S' : Sd} {ws ws' : List Int} {x x' : Int}
theorem Kn.next (h : Kn w W g cs a R rr dr L Or Od S ws x) (on' : On W' a R rr dr L' Or' Od' S' ws' x') (n : ∀ q, Both a Or' Od' R q → Both a Or Od R q ∨ W.heap.size ≤ q) (k : Keeps (Both a Or Od R) W W') : Kn w W' g cs a R rr dr L' Or' Od' S' ws' x' := by
  have h0 := h.pos
  have hz := h.kp.size
  have hgl := lt_of_block h.hg
  refine ⟨on', h.tz.keeps k (fun e => by have := h.new 0 e; omega), fun q hq => ?_, h.pos, h.kp.step k (fun i hi e => by have := h.new i e; omega), k.old h.hg h.nf, fun e => ?_, h.ge⟩
  · rcases n q hq with e | e
    · exact h.new q e
    · omega
  · rcases n g e with e | e
    · exact h.nf e
    · omega
theorem Kn.same (h : Kn w W g cs a R rr dr L Or Od S ws x) (on' : On W' a R rr dr L Or Od S' ws' x') (k : Keeps (Both a Or Od R) W W') : Kn w W' g cs a R rr dr L Or Od S' ws' x' := h.next on' (fun _ hq => .inl hq) k
theorem Kn.up (h : Kn w W g cs a R rr dr L Or Od S ws x) (k : Keeps (fun _ => False) W W') : Kn w W' g cs a R rr dr L Or Od S ws x := h.same (h.on.up k) k.up
theorem Kn.storeT (h : Kn w W g cs a R rr dr L Or Od S ws x) (hs : cs.size = 8) (o y k d z : Int) (ow : Bool) :
    ∃ X, (Instr.storeAt 39 (.pointer (some ⟨g, 0, none⟩)) (turnV o y k d z ow)).run Tryd.prog W = .ok () X ∧ Kn w X g (turnA o y k d z ow) a R rr dr L Or Od S ws x ∧ X.cell? ⟨g, 0, none⟩ = some (.int .i64 o) ∧ X.cell? ⟨g, 1, none⟩ = some (.int .u64 y) ∧ X.cell? ⟨g, 5, none⟩ = some (.int .u64 z) := by
  have hb := setRow_heap W g cs (turnA o y k d z ow) 39 (0, 0) h.hg
  have hk := setRow_keeps' (w := W) (a := g) (turnA o y k d z ow)
  have hgl := h.pos
  refine ⟨W.setRow g (turnA o y k d z ow), ?_, ⟨h.on.row (b := g) (fun q hq e => h.nf (e ▸ hq)) _, h.tz.keeps hk (fun e => by have := h.ge; omega), h.new, h.pos, h.kp.step hk (fun i hi e => by have := h.ge; omega), hb, h.nf, h.ge⟩, cell_of_block hb 0, cell_of_block hb 1, cell_of_block hb 5⟩
  show (Instr.storeAt 39 (.pointer (some ⟨g, 0, none⟩)) (.agg (turnA o y k d z ow))).run Tryd.prog W = _
  simp only [Instr.storeAt, Instr.sureAddr, Sem.run_bind, Sem.run_pure, Result.andThen_ok, run_storeVar_row W g 39 39 cs (turnA o y k d z ow) h.hg size_turn hs (turnA_one _ _ _ _ _ _)]
end
end Go.Proofs.YtmhinalgjfiliaaDoor
