
/-
  Steps of the program's attempts: commit, lock, free; what an Add and a Put leave. No statement of the seat is proved here.
-/
import Derived.Test.YtmhinalgjfiliaaDoorAtE
import Derived.Deep.RegionHeld3
namespace Go.Proofs.YtmhinalgjfiliaaDoor
open Go.RowKit Go.Shelf

def Sd.reads (S : Sd) (l : List (Int × Int)) : Sd := ⟨S.sn, l, S.wr, S.ph, S.th, S.ad, S.wo, S.fo, S.pl⟩
def Sd.writes (S : Sd) (l : List (Int × Int)) : Sd := ⟨S.sn, S.rd, l, S.ph, S.th, S.ad, S.wo, S.fo, S.pl⟩

section
variable {w : World} {a rr dr : Nat} {R : Sh} {L : List (Int × Int)} {Or Od : Nat → Prop} {S : Sd} {ws : List Int} {x : Int}
theorem On.add (h : On w a R rr dr L Or Od S ws x) (d y : Int) (hm : S.rd.length < 1024) :
    Calls Tryd.prog 48 #[.pointer (some ⟨rr, 0, none⟩), .int .u64 d, .int .u64 y] w fun e w' => e = .returned (.int .i64 0) ∧ ∃ Or', On w' a R rr dr L Or' Od (S.reads (S.rd ++ [(d, y)])) ws x ∧ (∀ q, Or' q → Or q ∨ w.heap.size ≤ q) ∧ Keeps (Both a Or Od R) w w' := by
  refine (rlog_add rr 1024 S.rd Or d y w h.at_.rd hm).mono ?_
  rintro e w' ⟨rfl, ⟨Or', h1, h2⟩, h3⟩
  have hb : ∀ q, AOwn a Or' Od q → AOwn a Or Od q ∨ w.heap.size ≤ q := fun q hq => by
    rcases hq with hq | hq | hq
    · exact .inl (.inl hq)
    · exact (h2 q hq).imp (fun e => .inr (.inl e)) id
    · exact .inl (.inr (.inr hq))
  refine ⟨rfl, Or', ⟨⟨h3.old h.at_.box h.at_.nr, h1, h.at_.wr.kept h3 (fun q hq e => h.at_.ap q e hq), h.at_.eq, fun e => ?_, h.at_.nd, fun q hq hd => ?_⟩, h.sh.kept h3 (fun q hq e => h.dis q (.inr (.inl e)) hq), fun q hq hR => ?_⟩, h2, h3.mono (fun q _ e => .inl (.inr (.inl e)))⟩
  · rcases h2 a e with e | e
    · exact h.at_.nr e
    · have := lt_of_block h.at_.box; omega
  · rcases h2 q hq with e | e
    · exact h.at_.ap q e hd
    · have := h.at_.wr.lt hd; omega
  · rcases hb q hq with e | e
    · exact h.dis q e hR
    · have := h.sh.lt hR; omega
theorem On.put (h : On w a R rr dr L Or Od S ws x) (hz : Tz w) (d y : Int) (hm : L.length < 4398046511104) (hf : ¬ Full 1024 L d) :
    Calls Tryd.prog 29 #[.pointer (some ⟨dr, 0, none⟩), .int .u64 d, .int .u64 y] w fun e w' => e = .returned (.int .i64 0) ∧ ∃ Od', On w' a R rr dr (L ++ [(d, y)]) Or Od' (S.writes (putE S.wr d y)) ws x ∧ (∀ q, Od' q → Od q ∨ w.heap.size ≤ q) ∧ Keeps (Both a Or Od R) w w' := by
  refine (log_put dr 1024 L Od d y w h.at_.wr hz hm hf).mono ?_
  rintro e w' ⟨rfl, ⟨Od', h1, h2⟩, h3⟩
  have hb : ∀ q, AOwn a Or Od' q → AOwn a Or Od q ∨ w.heap.size ≤ q := fun q hq => by
    rcases hq with hq | hq | hq
    · exact .inl (.inl hq)
    · exact .inl (.inr (.inl hq))
    · exact (h2 q hq).imp (fun e => .inr (.inr e)) id
  refine ⟨rfl, Od', ⟨⟨h3.old h.at_.box h.at_.nd, h.at_.rd.kept h3 (fun q hq e => h.at_.ap q hq e), h1, by rw [redoE_snoc, h.at_.eq]; rfl, h.at_.nr, fun e => ?_, fun q hq hd => ?_⟩, h.sh.kept h3 (fun q hq e => h.dis q (.inr (.inr e)) hq), fun q hq hR => ?_⟩, h2, h3.mono (fun q _ e => .inl (.inr (.inr e)))⟩
  · rcases h2 a e with e | e
    · exact h.at_.nd e
    · have := lt_of_block h.at_.box; omega
  · rcases h2 q hd with e | e
    · exact h.at_.ap q hq e
    · have := h.at_.rd.lt hq; omega
  · rcases hb q hq with e | e
    · exact h.dis q e hR
    · have := h.sh.lt hR; omega
end

set_option maxRecDepth 100000 in
set_option maxHeartbeats 1000000 in
theorem commit_at (a : Nat) (old : Array Value) (x : Int) (w : World) (h : w.heap[a]? = some (.cells old 80 (0, 0))) (ho : old.size = 22) :
    Calls Tryd.prog 38 #[.pointer (some ⟨a, 0, none⟩), .int .u64 x] w fun e w' => e = .returned (turnV 4 0 6 0 (x / 2) false) ∧ w'.heap[a]? = some (.cells overV 80 (0, 0)) ∧ Keeps (fun q => q = a) w w' := by
  have hlt := lt_of_block h
  have HO : Hid (∀ o, Calls Tryd.prog 55 #[.pointer (some ⟨a, 0, none⟩)] (w.alloc o) fun e W => e = .returned (.tuple #[]) ∧ W.heap[w.heap.size]? = some o ∧ Hid (W.heap[a]? = some (.cells overV 80 (0, 0)) ∧ Keeps (fun q => q = a) w W)) := fun o =>
    (over_at a old _ (alloc_old h o) ho).mono fun e W ⟨h1, h2, h3⟩ => ⟨h1, h3.old (alloc_block w o) (by omega), h2, (Keeps.al w o).up.trans h3⟩
  have HN := fun W => C.number_any x W
  have HG : Hid (∀ W o, W.heap[w.heap.size]? = some o → Calls Tryd.prog 26 #[.int .i64 4, .int .i64 6, .int .u64 (x / 2)] W fun e W' => e = .returned (turnV 4 0 6 0 (x / 2) false) ∧ W'.heap[w.heap.size]? = some o ∧ Hid (Keeps (fun _ => False) W W')) := fun W o hb =>
    (told_any 4 6 (x / 2) W).mono fun e W' ⟨h1, h2⟩ => ⟨h1, h2.old hb (fun f => f), h2⟩
  generalize x / 2 = y at *
  clear h
  unfold turnV at HG
  go_enter Tryd.func38, Tryd.ntmps38
  go_wp2_with fail
  refine (HO.out _).mono ?_
  rintro e W1 ⟨rfl, b1, h1⟩
  have HG1 := HG.out W1 _ b1
  clear HO HG b1
  go_wp2_with (go_at_call 56; refine (HN _).mono ?_; rintro e w' ⟨rfl, hw'⟩; replace hw' := hw'.symm; subst hw')
  refine HG1.mono ?_
  rintro e W2 ⟨rfl, b2, h2⟩
  clear HG1
  go_wp2_with (refine wpList_store_row' rfl 39 _ _ rfl w.heap.size _ rfl rfl 39 _ b2 size_turn rfl (by simp [Value.oneCell']) ?_)
  refine bodyPost_ret (turn_ret1 rfl _ _ w.heap.size _ _ b2 rfl rfl) rfl ?_
  refine ⟨rfl, ?_, (h1.out.2.trans h2.out.up).row (Nat.le_refl _) _⟩
  exact (setRow_keeps' (w := W2) (a := w.heap.size) _).old (h2.out.old h1.out.1 (fun f => f)) (by omega)

/-- The value of a Turn's block as it is made. -/
theorem two_of {P Q : Prop} (h : P) (g : Q) : P ∧ Q := ⟨h, g⟩

set_option maxRecDepth 100000 in
set_option maxHeartbeats 1000000 in
theorem lock_at (a rr dr : Nat) (R : Sh) (L : List (Int × Int)) (Or Od : Nat → Prop) (S : Sd) (ws : List Int) (x : Int) (w : World) (h : On w a R rr dr L Or Od S ws x) (h0 : 0 ≤ S.sn) (h1 : S.sn < 18446744073709551616) (he : S.sn % 2 = 0) :
    Calls Tryd.prog 39 #[.pointer (some ⟨a, 0, none⟩)] w fun e w' =>
      e = .returned (.tuple #[if x == S.sn then turnV 1 0 5 0 0 false else turnV 1 0 0 0 0 false, .int .i64 0]) ∧ On w' a R rr dr L Or Od (if x == S.sn then S.to 8 0 0 0 0 0 else S.to 4 7 0 0 0 0) ws (if x == S.sn then C.upw S.sn 1 else x) ∧ Keeps (Both a Or Od R) w w' := by
  have hf := h.far (Nat.le_refl w.heap.size)
  have HF : Hid (∀ q, Both a Or Od R q → q ≠ w.heap.size) := fun q hq e => hf (e ▸ hq)
  have hlt := lt_of_block h.at_.box
  have hS1 : (w.alloc (.cells zeroT 39)).cell? ⟨a, 1, none⟩ = some (.pointer (some ⟨R.ck, 0, none⟩)) ∧ (w.alloc (.cells zeroT 39)).cell? ⟨a, 2, none⟩ = some (.int .u64 S.sn) := ⟨(h.al _).at_.cell 1, (h.al _).at_.cell 2⟩
  have HT : Hid (∀ W, Like W (w.alloc (.cells zeroT 39)) → Calls Tryd.prog 57 #[.pointer (some ⟨R.ck, 0, none⟩), .int .u64 S.sn] W fun e W' => e = .returned (.tuple #[.bool (x == S.sn), .int .i64 0]) ∧ (W'.cell? ⟨a, 1, none⟩ = some (.pointer (some ⟨R.ck, 0, none⟩)) ∧ W'.cell? ⟨a, 2, none⟩ = some (.int .u64 S.sn)) ∧ W'.heap[w.heap.size]? = some (.cells zeroT 39 (0, 0)) ∧ Hid (On W' a R rr dr L Or Od S ws (if x == S.sn then C.upw S.sn 1 else x) ∧ Keeps (Both a Or Od R) w W')) := fun W hl => by
    have k0 := hl.keeps (Keeps.al w (.cells zeroT 39))
    refine ((h.up k0).take S.sn h0 h1 he).mono fun e W' ⟨h1, h2, h3⟩ => ⟨h1, ⟨h2.at_.cell 1, h2.at_.cell 2⟩, h3.old ?_ hf, h2, k0.up.trans h3⟩
    rw [hl.heap]
    exact alloc_block w _
  have HG : Hid (∀ W, W.heap[w.heap.size]? = some (.cells zeroT 39 (0, 0)) → On W a R rr dr L Or Od S ws (if x == S.sn then C.upw S.sn 1 else x) → Keeps (Both a Or Od R) w W → Calls Tryd.prog 54 #[.pointer (some ⟨a, 0, none⟩), standV 4 7 0 0 0 0] W fun e W' => e = .returned (.tuple #[turnV 1 0 0 0 0 false, .int .i64 0]) ∧ W'.heap[w.heap.size]? = some (.cells zeroT 39 (0, 0)) ∧ Hid (On W' a R rr dr L Or Od (S.to 4 7 0 0 0 0) ws (if x == S.sn then C.upw S.sn 1 else x) ∧ Keeps (Both a Or Od R) w W')) := fun W hb h2 k2 =>
    (h2.goOn 4 7 0 0 0 0).mono fun e W' ⟨h3, h4, h5⟩ => ⟨h3, h5.old hb hf, h4, k2.trans h5⟩
  have HD : Hid (∀ W, W.heap[w.heap.size]? = some (.cells zeroT 39 (0, 0)) → Calls Tryd.prog 26 #[.int .i64 1, .int .i64 5, .int .u64 0] W fun e W' => e = .returned (turnV 1 0 5 0 0 false) ∧ W'.heap[w.heap.size]? = some (.cells zeroT 39 (0, 0)) ∧ Hid (Keeps (fun _ => False) W W')) := fun W hb =>
    (told_any 1 5 0 W).mono fun e W' ⟨h1, h2⟩ => ⟨h1, h2.old hb (fun f => f), h2⟩
  clear h
  unfold standV at HG
  unfold turnV at HG HD ⊢
  generalize (if x == S.sn then C.upw S.sn 1 else x) = x' at *
  cases hx : (x == S.sn)
  · rw [hx] at HT
    simp only [Bool.false_eq_true, if_false]
    go_enter Tryd.func39, Tryd.ntmps39
    go_wp2_with fail
    go_region_held3 (fun W : World => W.cell? ⟨a, 1, none⟩ = some (.pointer (some ⟨R.ck, 0, none⟩)) ∧ W.cell? ⟨a, 2, none⟩ = some (.int .u64 S.sn)) (first | assumption | (exact hS1) | go_keep)
      ((go_at_call 57; refine (HT.out _ (by exact ⟨rfl, rfl, rfl, rfl⟩)).mono ?_; rintro e W1 ⟨rfl, hS2, b1, h1⟩))
    have HG1 := HG.out W1 b1 h1.out.1 h1.out.2
    clear HT HG HD b1 h1 hS1
    go_wp2_with fail
    refine HG1.mono ?_
    rintro e W2 ⟨rfl, b2, h2⟩
    clear HG1
    go_wp2_with (refine wpList_store_row' rfl 39 _ _ rfl w.heap.size _ rfl rfl 39 _ b2 size_turn rfl (by simp [Value.oneCell']) ?_)
    refine bodyPost_ret (turn_ret rfl _ _ w.heap.size _ _ b2 rfl rfl) rfl ?_
    exact ⟨rfl, h2.out.1.row HF.out _, h2.out.2.row (Nat.le_refl _) _⟩
  · rw [hx] at HT
    simp only [if_true]
    go_enter Tryd.func39, Tryd.ntmps39
    go_wp2_with fail
    go_region_held3 (fun W : World => W.cell? ⟨a, 1, none⟩ = some (.pointer (some ⟨R.ck, 0, none⟩)) ∧ W.cell? ⟨a, 2, none⟩ = some (.int .u64 S.sn)) (first | assumption | (exact hS1) | go_keep)
      ((go_at_call 57; refine (HT.out _ (by exact ⟨rfl, rfl, rfl, rfl⟩)).mono ?_; rintro e W1 ⟨rfl, hS2, b1, h1⟩))
    obtain ⟨c5, c6, c7, c8, c9, c10⟩ := h1.out.1.at_.sc
    obtain ⟨f5, f6, f7, f8, f9, f10⟩ := h1.out.1.at_.sf
    have HD1 := HD.out (setStand W1 a 8 0 0 0 0 0) ((setStand_keeps W1 a 8 0 0 0 0 0).old b1 (by omega))
    clear HT HG HD b1 hS1
    go_wp2_with fail
    refine HD1.mono ?_
    rintro e W2 ⟨rfl, b2, h2⟩
    clear HD1
    go_wp2_with (refine wpList_store_row' rfl 39 _ _ rfl w.heap.size _ rfl rfl 39 _ b2 size_turn rfl (by simp [Value.oneCell']) ?_)
    refine bodyPost_ret (turn_ret rfl _ _ w.heap.size _ _ b2 rfl rfl) rfl ?_
    obtain ⟨q1, q2⟩ := h1.out
    have q3 : On (setStand W1 a 8 0 0 0 0 0) a R rr dr L Or Od (S.to 8 0 0 0 0 0) ws x' := ⟨q1.at_.stand 8 0 0 0 0 0, q1.sh.att q1.dis ((setStand_keeps W1 a 8 0 0 0 0 0).mono (fun _ _ e => .inl e)), q1.dis⟩
    exact ⟨rfl, (q3.up h2.out).row HF.out _, ((q2.trans ((setStand_keeps W1 a 8 0 0 0 0 0).mono (fun _ _ e => .inl (.inl e)))).trans h2.out.up).row (Nat.le_refl _) _⟩
end Go.Proofs.YtmhinalgjfiliaaDoor
