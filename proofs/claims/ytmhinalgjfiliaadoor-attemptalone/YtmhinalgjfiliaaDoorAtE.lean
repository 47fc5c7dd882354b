
/-
  Steps of the program's attempts: fetch, lock, commit, look, store, free. No statement of the seat is proved here.
-/
import Derived.Test.YtmhinalgjfiliaaDoorAtD
namespace Go.Proofs.YtmhinalgjfiliaaDoor
open Go.RowKit Go.Shelf

theorem Keeps.al (w : World) (o : Obj) : Keeps (fun _ => False) w (w.alloc o) := (Keeps.refl _ w).alloc o
theorem Keeps.up {S : Nat → Prop} {w W : World} (h : Keeps (fun _ => False) w W) : Keeps S w W := h.mono (fun _ _ f => f.elim)
/-- All that a step may turn. -/
def Both (a : Nat) (Or Od : Nat → Prop) (R : Sh) (q : Nat) : Prop := AOwn a Or Od q ∨ R.own q

section
variable {w W W' : World} {a rr dr : Nat} {R : Sh} {L : List (Int × Int)} {Or Od : Nat → Prop} {S : Sd} {ws : List Int} {x : Int}
theorem AttX.row' (h : AttX w a R rr dr L Or Od S) (dis : ∀ q, AOwn a Or Od q → ¬ R.own q) (k : Keeps (fun q => q = R.rb ∨ q = R.rc) w W) : AttX W a R rr dr L Or Od S :=
  h.kept k (fun q hq e => dis q hq (e.elim .inl (fun e => .inr (.inl e))))
theorem AttX.clk' (h : AttX w a R rr dr L Or Od S) (dis : ∀ q, AOwn a Or Od q → ¬ R.own q) (k : Keeps (C.own3 R.ck R.cb R.cc) w W) : AttX W a R rr dr L Or Od S :=
  h.kept k (fun q hq e => dis q hq (.inr (.inr e)))
theorem ShAt.att (h : ShAt w R ws x) (dis : ∀ q, AOwn a Or Od q → ¬ R.own q) (k : Keeps (AOwn a Or Od) w W) : ShAt W R ws x :=
  h.kept k (fun q hq e => dis q e hq)
end

/-- Hypotheses of a step: the attempt, what is shared, apart; a block b that the step must leave. -/
structure On (w : World) (a : Nat) (R : Sh) (rr dr : Nat) (L : List (Int × Int)) (Or Od : Nat → Prop) (S : Sd) (ws : List Int) (x : Int) : Prop where
  at_ : AttX w a R rr dr L Or Od S
  sh : ShAt w R ws x
  dis : ∀ q, AOwn a Or Od q → ¬ R.own q
section
variable {w W W' : World} {a rr dr : Nat} {R : Sh} {L : List (Int × Int)} {Or Od : Nat → Prop} {S : Sd} {ws : List Int} {x : Int}
theorem On.kept {T : Nat → Prop} (h : On w a R rr dr L Or Od S ws x) (k : Keeps T w W) (h1 : ∀ q, Both a Or Od R q → ¬ T q) : On W a R rr dr L Or Od S ws x :=
  ⟨h.at_.kept k (fun q hq => h1 q (.inl hq)), h.sh.kept k (fun q hq => h1 q (.inr hq)), h.dis⟩
theorem On.al (h : On w a R rr dr L Or Od S ws x) (o : Obj) : On (w.alloc o) a R rr dr L Or Od S ws x := h.kept (Keeps.al w o) (fun _ _ f => f)
theorem On.up (h : On w a R rr dr L Or Od S ws x) (k : Keeps (fun _ => False) w W) : On W a R rr dr L Or Od S ws x := h.kept k (fun _ _ f => f)
theorem On.lt (h : On w a R rr dr L Or Od S ws x) {q : Nat} (hq : Both a Or Od R q) : q < w.heap.size := hq.elim h.at_.lt h.sh.lt
/-- A block behind all of these is written. -/
theorem On.row (h : On W a R rr dr L Or Od S ws x) {b : Nat} (hb : ∀ q, Both a Or Od R q → q ≠ b) (cs : Array Value) : On (W.setRow b cs) a R rr dr L Or Od S ws x :=
  h.kept (T := fun q => q = b) (setRow_keeps' cs) hb
theorem On.load (h : On w a R rr dr L Or Od S ws x) (d : Int) (hd : 0 ≤ d) :
    Calls Tryd.prog 21 #[.pointer (some ⟨R.rb, 0, none⟩), .int .u64 d] w fun e w' => e = .returned (.tuple #[.int .u64 (C.wordAt ws d), .int .i64 (C.errAt ws.length d)]) ∧ On w' a R rr dr L Or Od S ws x ∧ Keeps (Both a Or Od R) w w' := by
  obtain ⟨n, r⟩ := h.sh.row
  exact (C.load_at _ _ ws n d w r hd).mono fun e w' ⟨h1, h2, h3⟩ => ⟨h1, ⟨h.at_.row' h.dis h3, h.sh.row' h2 h3, h.dis⟩, h3.mono (fun q _ e => .inr (e.elim .inl (fun e => .inr (.inl e))))⟩
theorem On.store (h : On w a R rr dr L Or Od S ws x) (d y : Int) (hd : 0 ≤ d) :
    Calls Tryd.prog 77 #[.pointer (some ⟨R.rb, 0, none⟩), .int .u64 d, .int .u64 y] w fun e w' => e = .returned (.int .i64 (C.errAt ws.length d)) ∧ On w' a R rr dr L Or Od S (C.putAt ws d y) x ∧ Keeps (Both a Or Od R) w w' := by
  obtain ⟨n, r⟩ := h.sh.row
  exact (C.store_at _ _ ws n d y w r hd).mono fun e w' ⟨h1, h2, h3⟩ => ⟨h1, ⟨h.at_.row' h.dis h3, h.sh.row' h2 h3, h.dis⟩, h3.mono (fun q _ e => .inr (e.elim .inl (fun e => .inr (.inl e))))⟩
theorem On.clock (h : On w a R rr dr L Or Od S ws x) :
    Calls Tryd.prog 22 #[.pointer (some ⟨R.ck, 0, none⟩)] w fun e w' => e = .returned (.tuple #[.int .u64 x, .int .i64 0]) ∧ On w' a R rr dr L Or Od S ws x ∧ Keeps (Both a Or Od R) w w' := by
  obtain ⟨st, c⟩ := h.sh.clk
  exact (C.cload_at _ _ _ _ _ w c).mono fun e w' ⟨h1, h2, h3⟩ => ⟨h1, ⟨h.at_.clk' h.dis h3, h.sh.clk' h2 h3, h.dis⟩, h3.mono (fun q _ e => .inr (.inr (.inr e)))⟩
theorem turns_even {x s : Int} (he : s % 2 = 0) (o : Int) : C.turns x s o = (x == o) := by simp [C.turns, he]
theorem On.take (h : On w a R rr dr L Or Od S ws x) (s : Int) (h0 : 0 ≤ s) (h1 : s < 18446744073709551616) (he : s % 2 = 0) :
    Calls Tryd.prog 57 #[.pointer (some ⟨R.ck, 0, none⟩), .int .u64 s] w fun e w' => e = .returned (.tuple #[.bool (x == s), .int .i64 0]) ∧ On w' a R rr dr L Or Od S ws (if x == s then C.upw s 1 else x) ∧ Keeps (Both a Or Od R) w w' := by
  obtain ⟨st, c⟩ := h.sh.clk
  have := C.take_at _ _ _ _ _ s w c h0 h1
  rw [turns_even he] at this
  exact this.mono fun e w' ⟨h1, h2, h3⟩ => ⟨h1, ⟨h.at_.clk' h.dis h3, h.sh.clk' h2 h3, h.dis⟩, h3.mono (fun q _ e => .inr (.inr (.inr e)))⟩
theorem On.leave (h : On w a R rr dr L Or Od S ws x) (s : Int) (h0 : 0 ≤ s) (h1 : s < 18446744073709551616) (he : s % 2 = 0) :
    Calls Tryd.prog 78 #[.pointer (some ⟨R.ck, 0, none⟩), .int .u64 s] w fun e w' => (∃ n, e = .returned (.int .i64 n)) ∧ On w' a R rr dr L Or Od S ws (if x == C.upw s 1 then C.upw s 2 else x) ∧ Keeps (Both a Or Od R) w w' := by
  obtain ⟨st, c⟩ := h.sh.clk
  have := C.leave_at _ _ _ _ _ s w c h0 h1
  rw [turns_even he] at this
  exact this.mono fun e w' ⟨h1, h2, h3⟩ => ⟨⟨_, h1⟩, ⟨h.at_.clk' h.dis h3, h.sh.clk' h2 h3, h.dis⟩, h3.mono (fun q _ e => .inr (.inr (.inr e)))⟩
theorem On.goOn (h : On w a R rr dr L Or Od S ws x) (p t d y f i : Int) :
    Calls Tryd.prog 54 #[.pointer (some ⟨a, 0, none⟩), standV p t d y f i] w fun e w' => e = .returned (.tuple #[turnV 1 0 0 0 0 false, .int .i64 0]) ∧ On w' a R rr dr L Or Od (S.to p t d y f i) ws x ∧ Keeps (Both a Or Od R) w w' :=
  (goOn_at a rr dr R L Or Od S p t d y f i w h.at_).mono fun _ _ ⟨h1, h2, h3⟩ => ⟨h1, ⟨h2, h.sh.att h.dis (h3.mono (fun _ _ e => .inl e)), h.dis⟩, h3.mono (fun _ _ e => .inl (.inl e))⟩
end
/-- A block that no step turns. -/
theorem On.far {w : World} {a rr dr : Nat} {R : Sh} {L : List (Int × Int)} {Or Od : Nat → Prop} {S : Sd} {ws : List Int} {x : Int} (h : On w a R rr dr L Or Od S ws x) {b : Nat} (hb : w.heap.size ≤ b) : ¬ Both a Or Od R b := fun e => by have := h.lt e; omega

set_option maxRecDepth 100000 in
set_option maxHeartbeats 1000000 in
theorem fetch_at (a rr dr : Nat) (R : Sh) (L : List (Int × Int)) (Or Od : Nat → Prop) (S : Sd) (ws : List Int) (x d : Int) (w : World) (h : On w a R rr dr L Or Od S ws x) (hd : 0 ≤ d) :
    Calls Tryd.prog 35 #[.pointer (some ⟨a, 0, none⟩), .int .u64 d] w fun e w' => e = .returned (turnV 1 0 0 0 0 false) ∧ On w' a R rr dr L Or Od (S.to 3 0 d (C.wordAt ws d) 0 0) ws x ∧ Keeps (Both a Or Od R) w w' := by
  have hf := h.far (Nat.le_refl w.heap.size)
  have HF : Hid (∀ q, Both a Or Od R q → q ≠ w.heap.size) := fun q hq e => hf (e ▸ hq)
  have hlt := lt_of_block h.at_.box
  have c0 : w.cell? ⟨a, 0, none⟩ = some (.pointer (some ⟨R.rb, 0, none⟩)) := h.at_.cell 0
  have HL : Hid (∀ o, Calls Tryd.prog 21 #[.pointer (some ⟨R.rb, 0, none⟩), .int .u64 d] (w.alloc o) fun e W => e = .returned (.tuple #[.int .u64 (C.wordAt ws d), .int .i64 (C.errAt ws.length d)]) ∧ W.heap[w.heap.size]? = some o ∧ Hid (On W a R rr dr L Or Od S ws x ∧ Keeps (Both a Or Od R) w W)) := fun o =>
    ((h.al o).load d hd).mono fun e W ⟨h1, h2, h3⟩ => ⟨h1, h3.old (alloc_block w o) hf, h2, (Keeps.al w o).up.trans h3⟩
  have HG : Hid (∀ W o, W.heap[w.heap.size]? = some o → On W a R rr dr L Or Od S ws x → Keeps (Both a Or Od R) w W → Calls Tryd.prog 54 #[.pointer (some ⟨a, 0, none⟩), standV 3 0 d (C.wordAt ws d) 0 0] W fun e W' => e = .returned (.tuple #[turnV 1 0 0 0 0 false, .int .i64 0]) ∧ W'.heap[w.heap.size]? = some o ∧ Hid (On W' a R rr dr L Or Od (S.to 3 0 d (C.wordAt ws d) 0 0) ws x ∧ Keeps (Both a Or Od R) w W')) := fun W o hb h2 k2 =>
    (h2.goOn 3 0 d (C.wordAt ws d) 0 0).mono fun e W' ⟨h3, h4, h5⟩ => ⟨h3, h5.old hb hf, h4, k2.trans h5⟩
  generalize C.wordAt ws d = y at *
  generalize C.errAt ws.length d = z at *
  clear h hf
  unfold standV turnV at HG
  go_enter Tryd.func35, Tryd.ntmps35
  go_wp2_with fail
  refine (HL.out _).mono ?_
  rintro e W1 ⟨rfl, b1, h1⟩
  have HG1 := HG.out W1 _ b1 h1.out.1 h1.out.2
  clear HL HG b1 h1
  go_wp2_with fail
  refine HG1.mono ?_
  rintro e W2 ⟨rfl, b2, h2⟩
  clear HG1
  go_wp2_with (refine wpList_store_row' rfl 39 _ _ rfl w.heap.size _ rfl rfl 39 _ (alloc_old b2 _) size_turn rfl (by simp [Value.oneCell']) ?_)
  refine bodyPost_ret (turn_ret1 rfl _ _ w.heap.size _ _ (alloc_old b2 _) rfl rfl) rfl ?_
  exact ⟨rfl, (h2.out.1.al _).row HF.out _, (h2.out.2.alloc _).row (Nat.le_refl _) _⟩
end Go.Proofs.YtmhinalgjfiliaaDoor
