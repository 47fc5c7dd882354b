
/-
  Calls of the program's attempts: Get, Put, End. No statement of the seat is proved here.
-/
import Derived.Test.YtmhinalgjfiliaaDoorAtH
namespace Go.Proofs.YtmhinalgjfiliaaDoor
open Go.RowKit Go.Shelf

set_option maxRecDepth 100000 in
set_option maxHeartbeats 1000000 in
theorem get_range (a rr dr : Nat) (R : Sh) (L : List (Int × Int)) (Or Od : Nat → Prop) (S : Sd) (ws : List Int) (x : Int) (d : Int) (w : World) (h : On w a R rr dr L Or Od S ws x) (hz : Tz w) (hp : S.ph = 1) (hn : ¬ idxE S.wr d < S.wr.length) (hr : (ws.length : Int) ≤ d) :
    Calls Tryd.prog 15 #[.pointer (some ⟨a, 0, none⟩), .int .u64 d] w fun e w' => e = .returned (.tuple #[turn0, .int .i64 4]) ∧ On w' a R rr dr L Or Od S ws x ∧ Keeps (fun _ => False) w w' := by
  have hf := h.far (Nat.le_refl w.heap.size)
  have HF : Hid (∀ q, Both a Or Od R q → q ≠ w.heap.size) := fun q hq e => hf (e ▸ hq)
  have hlt := lt_of_block h.at_.box
  have h1 := h.al (.cells zeroT 39)
  have hz1 : Tz (w.alloc (.cells zeroT 39)) := hz.keeps (Keeps.al w _) (fun f => f)
  have b1 : (w.alloc (.cells zeroT 39)).heap[w.heap.size]? = some (.cells zeroT 39 (0, 0)) := alloc_block w _
  have k1 : Keeps (fun _ => False) w (w.alloc (.cells zeroT 39)) := Keeps.al w _
  have HI := idle_yes a _ ((h1.at_.cell 5).trans (by rw [show (attV a R.rb R.ck rr dr S)[5]? = some (.int .i64 S.ph) from rfl, hp]))
  have HGt := log_get dr 1024 L Od d _ h1.at_.wr hz1
  rw [h.at_.eq] at HGt
  rw [if_neg hn, show decide (idxE S.wr d < S.wr.length) = false from by simp [hn]] at HGt
  obtain ⟨nr, rr1⟩ := h1.sh.row
  have HH := C.has_at d R.rb _ _ _ rr1.le _ rr1.cell0
  rw [show decide (d < (ws.length : Int)) = false from by simp; omega] at HH
  have c0 : w.cell? ⟨a, 0, none⟩ = some (.pointer (some ⟨R.rb, 0, none⟩)) := h.at_.cell 0
  have c3 : w.cell? ⟨a, 3, none⟩ = some (.pointer (some ⟨rr, 0, none⟩)) := h.at_.cell 3
  have c4 : w.cell? ⟨a, 4, none⟩ = some (.pointer (some ⟨dr, 0, none⟩)) := h.at_.cell 4
  have HE : Hid (∀ cs, On ((w.alloc (.cells zeroT 39)).setRow w.heap.size cs) a R rr dr L Or Od S ws x ∧ Keeps (fun _ => False) w ((w.alloc (.cells zeroT 39)).setRow w.heap.size cs)) := fun cs => ⟨h1.row HF.out cs, k1.row (Nat.le_refl _) cs⟩
  clear h h1 hz1 k1 hz
  unfold turn0 turnV
  go_enter Tryd.func15, Tryd.ntmps15
  go_wp2_with (first
    | (go_at_call 27; refine HI.mono ?_; rintro e w' ⟨rfl, hw'⟩; replace hw' := hw'.symm; subst hw')
    | (go_at_call 32; refine HGt.mono ?_; rintro e w' ⟨rfl, hw'⟩; replace hw' := hw'.symm; subst hw')
    | (go_at_call 28; refine HH.mono ?_; rintro e w' ⟨rfl, hw'⟩; replace hw' := hw'.symm; subst hw')
    | (refine wpList_store_row' rfl 39 _ _ rfl w.heap.size _ rfl rfl 39 _ b1 size_turn rfl (by simp [Value.oneCell']) ?_))
  refine bodyPost_ret (turn_ret rfl _ _ w.heap.size _ _ b1 rfl rfl) rfl ?_
  exact ⟨rfl, HE.out _⟩

set_option maxRecDepth 100000 in
set_option maxHeartbeats 1000000 in
theorem get_full (a rr dr : Nat) (R : Sh) (L : List (Int × Int)) (Or Od : Nat → Prop) (S : Sd) (ws : List Int) (x : Int) (d : Int) (w : World) (h : On w a R rr dr L Or Od S ws x) (hz : Tz w) (hp : S.ph = 1) (hn : ¬ idxE S.wr d < S.wr.length) (hr : d < (ws.length : Int)) (hF : S.rd.length = 1024) :
    Calls Tryd.prog 15 #[.pointer (some ⟨a, 0, none⟩), .int .u64 d] w fun e w' => e = .returned (.tuple #[turn0, .int .i64 5]) ∧ On w' a R rr dr L Or Od S ws x ∧ Keeps (fun _ => False) w w' := by
  have hf := h.far (Nat.le_refl w.heap.size)
  have HF : Hid (∀ q, Both a Or Od R q → q ≠ w.heap.size) := fun q hq e => hf (e ▸ hq)
  have hlt := lt_of_block h.at_.box
  have h1 := h.al (.cells zeroT 39)
  have hz1 : Tz (w.alloc (.cells zeroT 39)) := hz.keeps (Keeps.al w _) (fun f => f)
  have b1 : (w.alloc (.cells zeroT 39)).heap[w.heap.size]? = some (.cells zeroT 39 (0, 0)) := alloc_block w _
  have k1 : Keeps (fun _ => False) w (w.alloc (.cells zeroT 39)) := Keeps.al w _
  have HI := idle_yes a _ ((h1.at_.cell 5).trans (by rw [show (attV a R.rb R.ck rr dr S)[5]? = some (.int .i64 S.ph) from rfl, hp]))
  have HGt := log_get dr 1024 L Od d _ h1.at_.wr hz1
  rw [h.at_.eq] at HGt
  rw [if_neg hn, show decide (idxE S.wr d < S.wr.length) = false from by simp [hn]] at HGt
  obtain ⟨nr, rr1⟩ := h1.sh.row
  have HH := C.has_at d R.rb _ _ _ rr1.le _ rr1.cell0
  rw [show decide (d < (ws.length : Int)) = true from by simp; omega] at HH
  have HLn := rlog_len rr 1024 S.rd Or _ h1.at_.rd
  rw [hF] at HLn
  have c0 : w.cell? ⟨a, 0, none⟩ = some (.pointer (some ⟨R.rb, 0, none⟩)) := h.at_.cell 0
  have c3 : w.cell? ⟨a, 3, none⟩ = some (.pointer (some ⟨rr, 0, none⟩)) := h.at_.cell 3
  have c4 : w.cell? ⟨a, 4, none⟩ = some (.pointer (some ⟨dr, 0, none⟩)) := h.at_.cell 4
  have HE : Hid (∀ cs, On ((w.alloc (.cells zeroT 39)).setRow w.heap.size cs) a R rr dr L Or Od S ws x ∧ Keeps (fun _ => False) w ((w.alloc (.cells zeroT 39)).setRow w.heap.size cs)) := fun cs => ⟨h1.row HF.out cs, k1.row (Nat.le_refl _) cs⟩
  clear h h1 hz1 k1 hz
  unfold turn0 turnV
  go_enter Tryd.func15, Tryd.ntmps15
  go_wp2_with (first
    | (go_at_call 27; refine HI.mono ?_; rintro e w' ⟨rfl, hw'⟩; replace hw' := hw'.symm; subst hw')
    | (go_at_call 32; refine HGt.mono ?_; rintro e w' ⟨rfl, hw'⟩; replace hw' := hw'.symm; subst hw')
    | (go_at_call 28; refine HH.mono ?_; rintro e w' ⟨rfl, hw'⟩; replace hw' := hw'.symm; subst hw')
    | (go_at_call 34; refine HLn.mono ?_; rintro e w' ⟨rfl, hw'⟩; replace hw' := hw'.symm; subst hw')
    | (refine wpList_store_row' rfl 39 _ _ rfl w.heap.size _ rfl rfl 39 _ b1 size_turn rfl (by simp [Value.oneCell']) ?_))
  refine bodyPost_ret (turn_ret rfl _ _ w.heap.size _ _ b1 rfl rfl) rfl ?_
  exact ⟨rfl, HE.out _⟩

set_option maxRecDepth 100000 in
set_option maxHeartbeats 1000000 in
theorem get_own (a rr dr : Nat) (R : Sh) (L : List (Int × Int)) (Or Od : Nat → Prop) (S : Sd) (ws : List Int) (x : Int) (d : Int) (w : World) (h : On w a R rr dr L Or Od S ws x) (hz : Tz w) (hp : S.ph = 1) (hn : idxE S.wr d < S.wr.length) :
    Calls Tryd.prog 15 #[.pointer (some ⟨a, 0, none⟩), .int .u64 d] w fun e w' => e = .returned (.tuple #[turnV 2 (wordE S.wr d) 2 d (wordE S.wr d) true, .int .i64 0]) ∧ On w' a R rr dr L Or Od S ws x ∧ Keeps (fun _ => False) w w' := by
  have hf := h.far (Nat.le_refl w.heap.size)
  have HF : Hid (∀ q, Both a Or Od R q → q ≠ w.heap.size) := fun q hq e => hf (e ▸ hq)
  have hlt := lt_of_block h.at_.box
  have h1 := h.al (.cells zeroT 39)
  have hz1 : Tz (w.alloc (.cells zeroT 39)) := hz.keeps (Keeps.al w _) (fun f => f)
  have b1 : (w.alloc (.cells zeroT 39)).heap[w.heap.size]? = some (.cells zeroT 39 (0, 0)) := alloc_block w _
  have k1 : Keeps (fun _ => False) w (w.alloc (.cells zeroT 39)) := Keeps.al w _
  have HI := idle_yes a _ ((h1.at_.cell 5).trans (by rw [show (attV a R.rb R.ck rr dr S)[5]? = some (.int .i64 S.ph) from rfl, hp]))
  have HGt := log_get dr 1024 L Od d _ h1.at_.wr hz1
  rw [h.at_.eq] at HGt
  rw [if_pos hn, show decide (idxE S.wr d < S.wr.length) = true from by simp [hn]] at HGt
  have c0 : w.cell? ⟨a, 0, none⟩ = some (.pointer (some ⟨R.rb, 0, none⟩)) := h.at_.cell 0
  have c3 : w.cell? ⟨a, 3, none⟩ = some (.pointer (some ⟨rr, 0, none⟩)) := h.at_.cell 3
  have c4 : w.cell? ⟨a, 4, none⟩ = some (.pointer (some ⟨dr, 0, none⟩)) := h.at_.cell 4
  generalize wordE S.wr d = y at *
  have HG : Hid (Calls Tryd.prog 33 #[.int .i64 0, .int .u64 d, .int .u64 y] (w.alloc (.cells zeroT 39)) fun e W' => e = .returned (turnV 2 y 2 d y true) ∧ W'.heap[w.heap.size]? = some (.cells zeroT 39 (0, 0)) ∧ Hid (On W' a R rr dr L Or Od S ws x ∧ Keeps (fun _ => False) w W')) :=
    (got_own d y _).mono fun e W' ⟨q1, q2⟩ => ⟨q1, q2.old b1 (fun f => f), h1.up q2, k1.trans q2⟩
  clear h h1 hz1 k1 hz
  unfold turnV at HG ⊢
  go_enter Tryd.func15, Tryd.ntmps15
  go_wp2_with (first | (go_at_call 27; refine HI.mono ?_; rintro e w' ⟨rfl, hw'⟩; replace hw' := hw'.symm; subst hw') | (go_at_call 32; refine HGt.mono ?_; rintro e w' ⟨rfl, hw'⟩; replace hw' := hw'.symm; subst hw'))
  refine HG.out.mono ?_
  rintro e W2 ⟨rfl, b2, h2⟩
  clear HG
  go_wp2_with (refine wpList_store_row' rfl 39 _ _ rfl w.heap.size _ rfl rfl 39 _ b2 size_turn rfl (by simp [Value.oneCell']) ?_)
  refine bodyPost_ret (turn_ret rfl _ _ w.heap.size _ _ b2 rfl rfl) rfl ?_
  exact ⟨rfl, h2.out.1.row HF.out _, h2.out.2.row (Nat.le_refl _) _⟩

set_option maxRecDepth 100000 in
set_option maxHeartbeats 1000000 in
theorem get_fetch (a rr dr : Nat) (R : Sh) (L : List (Int × Int)) (Or Od : Nat → Prop) (S : Sd) (ws : List Int) (x : Int) (d : Int) (w : World) (h : On w a R rr dr L Or Od S ws x) (hz : Tz w) (hp : S.ph = 1) (hn : ¬ idxE S.wr d < S.wr.length) (hd : 0 ≤ d) (hr : d < (ws.length : Int)) (hm : S.rd.length < 1024) :
    Calls Tryd.prog 15 #[.pointer (some ⟨a, 0, none⟩), .int .u64 d] w fun e w' => e = .returned (.tuple #[turnV 1 0 0 0 0 false, .int .i64 0]) ∧ On w' a R rr dr L Or Od (S.to 3 0 d (C.wordAt ws d) 0 0) ws x ∧ Keeps (Both a Or Od R) w w' := by
  have hf := h.far (Nat.le_refl w.heap.size)
  have HF : Hid (∀ q, Both a Or Od R q → q ≠ w.heap.size) := fun q hq e => hf (e ▸ hq)
  have hlt := lt_of_block h.at_.box
  have h1 := h.al (.cells zeroT 39)
  have hz1 : Tz (w.alloc (.cells zeroT 39)) := hz.keeps (Keeps.al w _) (fun f => f)
  have b1 : (w.alloc (.cells zeroT 39)).heap[w.heap.size]? = some (.cells zeroT 39 (0, 0)) := alloc_block w _
  have k1 : Keeps (fun _ => False) w (w.alloc (.cells zeroT 39)) := Keeps.al w _
  have HI := idle_yes a _ ((h1.at_.cell 5).trans (by rw [show (attV a R.rb R.ck rr dr S)[5]? = some (.int .i64 S.ph) from rfl, hp]))
  have HGt := log_get dr 1024 L Od d _ h1.at_.wr hz1
  rw [h.at_.eq] at HGt
  rw [if_neg hn, show decide (idxE S.wr d < S.wr.length) = false from by simp [hn]] at HGt
  obtain ⟨nr, rr1⟩ := h1.sh.row
  have HH := C.has_at d R.rb _ _ _ rr1.le _ rr1.cell0
  rw [show decide (d < (ws.length : Int)) = true from by simp; omega] at HH
  have HLn := rlog_len rr 1024 S.rd Or _ h1.at_.rd
  have hmi : ¬ ((S.rd.length : Int) ≥ 1024) := by omega
  have c0 : w.cell? ⟨a, 0, none⟩ = some (.pointer (some ⟨R.rb, 0, none⟩)) := h.at_.cell 0
  have c3 : w.cell? ⟨a, 3, none⟩ = some (.pointer (some ⟨rr, 0, none⟩)) := h.at_.cell 3
  have c4 : w.cell? ⟨a, 4, none⟩ = some (.pointer (some ⟨dr, 0, none⟩)) := h.at_.cell 4
  have HG : Hid (Calls Tryd.prog 35 #[.pointer (some ⟨a, 0, none⟩), .int .u64 d] (w.alloc (.cells zeroT 39)) fun e W' => e = .returned (turnV 1 0 0 0 0 false) ∧ W'.heap[w.heap.size]? = some (.cells zeroT 39 (0, 0)) ∧ Hid (On W' a R rr dr L Or Od (S.to 3 0 d (C.wordAt ws d) 0 0) ws x ∧ Keeps (Both a Or Od R) w W')) :=
    (fetch_at a rr dr R L Or Od S ws x d _ h1 hd).mono fun e W' ⟨q1, q2, q3⟩ => ⟨q1, q3.old b1 hf, q2, k1.up.trans q3⟩
  clear h h1 hz1 k1 hz
  unfold turnV at HG ⊢
  go_enter Tryd.func15, Tryd.ntmps15
  go_wp2_with (first | (go_at_call 27; refine HI.mono ?_; rintro e w' ⟨rfl, hw'⟩; replace hw' := hw'.symm; subst hw') | (go_at_call 32; refine HGt.mono ?_; rintro e w' ⟨rfl, hw'⟩; replace hw' := hw'.symm; subst hw') | (go_at_call 28; refine HH.mono ?_; rintro e w' ⟨rfl, hw'⟩; replace hw' := hw'.symm; subst hw') | (go_at_call 34; refine HLn.mono ?_; rintro e w' ⟨rfl, hw'⟩; replace hw' := hw'.symm; subst hw'))
  refine HG.out.mono ?_
  rintro e W2 ⟨rfl, b2, h2⟩
  clear HG
  go_wp2_with (refine wpList_store_row' rfl 39 _ _ rfl w.heap.size _ rfl rfl 39 _ b2 size_turn rfl (by simp [Value.oneCell']) ?_)
  refine bodyPost_ret (turn_ret rfl _ _ w.heap.size _ _ b2 rfl rfl) rfl ?_
  exact ⟨rfl, h2.out.1.row HF.out _, h2.out.2.row (Nat.le_refl _) _⟩

set_option maxRecDepth 100000 in
set_option maxHeartbeats 1000000 in
theorem put_range (a rr dr : Nat) (R : Sh) (L : List (Int × Int)) (Or Od : Nat → Prop) (S : Sd) (ws : List Int) (x : Int) (d y : Int) (w : World) (h : On w a R rr dr L Or Od S ws x) (hz : Tz w) (hp : S.ph = 1) (hr : (ws.length : Int) ≤ d) :
    Calls Tryd.prog 11 #[.pointer (some ⟨a, 0, none⟩), .int .u64 d, .int .u64 y] w fun e w' => e = .returned (.tuple #[turn0, .int .i64 4]) ∧ On w' a R rr dr L Or Od S ws x ∧ Keeps (fun _ => False) w w' := by
  have hf := h.far (Nat.le_refl w.heap.size)
  have HF : Hid (∀ q, Both a Or Od R q → q ≠ w.heap.size) := fun q hq e => hf (e ▸ hq)
  have hlt := lt_of_block h.at_.box
  have h1 := h.al (.cells zeroT 39)
  have hz1 : Tz (w.alloc (.cells zeroT 39)) := hz.keeps (Keeps.al w _) (fun f => f)
  have b1 : (w.alloc (.cells zeroT 39)).heap[w.heap.size]? = some (.cells zeroT 39 (0, 0)) := alloc_block w _
  have k1 : Keeps (fun _ => False) w (w.alloc (.cells zeroT 39)) := Keeps.al w _
  have HI := idle_yes a _ ((h1.at_.cell 5).trans (by rw [show (attV a R.rb R.ck rr dr S)[5]? = some (.int .i64 S.ph) from rfl, hp]))
  obtain ⟨nr, rr1⟩ := h1.sh.row
  have HH := C.has_at d R.rb _ _ _ rr1.le _ rr1.cell0
  rw [show decide (d < (ws.length : Int)) = false from by simp; omega] at HH
  have c0 : w.cell? ⟨a, 0, none⟩ = some (.pointer (some ⟨R.rb, 0, none⟩)) := h.at_.cell 0
  have c3 : w.cell? ⟨a, 3, none⟩ = some (.pointer (some ⟨rr, 0, none⟩)) := h.at_.cell 3
  have c4 : w.cell? ⟨a, 4, none⟩ = some (.pointer (some ⟨dr, 0, none⟩)) := h.at_.cell 4
  have HE : Hid (∀ cs, On ((w.alloc (.cells zeroT 39)).setRow w.heap.size cs) a R rr dr L Or Od S ws x ∧ Keeps (fun _ => False) w ((w.alloc (.cells zeroT 39)).setRow w.heap.size cs)) := fun cs => ⟨h1.row HF.out cs, k1.row (Nat.le_refl _) cs⟩
  clear h h1 hz1 k1 hz
  unfold turn0 turnV
  go_enter Tryd.func11, Tryd.ntmps11
  go_wp2_with (first | (go_at_call 27; refine HI.mono ?_; rintro e w' ⟨rfl, hw'⟩; replace hw' := hw'.symm; subst hw') | (go_at_call 28; refine HH.mono ?_; rintro e w' ⟨rfl, hw'⟩; replace hw' := hw'.symm; subst hw') | (refine wpList_store_row' rfl 39 _ _ rfl w.heap.size _ rfl rfl 39 _ b1 size_turn rfl (by simp [Value.oneCell']) ?_))
  refine bodyPost_ret (turn_ret rfl _ _ w.heap.size _ _ b1 rfl rfl) rfl ?_
  exact ⟨rfl, HE.out _⟩

set_option maxRecDepth 100000 in
set_option maxHeartbeats 1000000 in
theorem put_full (a rr dr : Nat) (R : Sh) (L : List (Int × Int)) (Or Od : Nat → Prop) (S : Sd) (ws : List Int) (x : Int) (d y : Int) (w : World) (h : On w a R rr dr L Or Od S ws x) (hz : Tz w) (hp : S.ph = 1) (hr : d < (ws.length : Int)) (hF : Full 1024 L d) :
    Calls Tryd.prog 11 #[.pointer (some ⟨a, 0, none⟩), .int .u64 d, .int .u64 y] w fun e w' => e = .returned (.tuple #[turn0, .int .i64 5]) ∧ On w' a R rr dr L Or Od S ws x ∧ Keeps (fun _ => False) w w' := by
  have hf := h.far (Nat.le_refl w.heap.size)
  have HF : Hid (∀ q, Both a Or Od R q → q ≠ w.heap.size) := fun q hq e => hf (e ▸ hq)
  have hlt := lt_of_block h.at_.box
  have h1 := h.al (.cells zeroT 39)
  have hz1 : Tz (w.alloc (.cells zeroT 39)) := hz.keeps (Keeps.al w _) (fun f => f)
  have b1 : (w.alloc (.cells zeroT 39)).heap[w.heap.size]? = some (.cells zeroT 39 (0, 0)) := alloc_block w _
  have k1 : Keeps (fun _ => False) w (w.alloc (.cells zeroT 39)) := Keeps.al w _
  have HI := idle_yes a _ ((h1.at_.cell 5).trans (by rw [show (attV a R.rb R.ck rr dr S)[5]? = some (.int .i64 S.ph) from rfl, hp]))
  obtain ⟨nr, rr1⟩ := h1.sh.row
  have HH := C.has_at d R.rb _ _ _ rr1.le _ rr1.cell0
  rw [show decide (d < (ws.length : Int)) = true from by simp; omega] at HH
  have c0 : w.cell? ⟨a, 0, none⟩ = some (.pointer (some ⟨R.rb, 0, none⟩)) := h.at_.cell 0
  have c3 : w.cell? ⟨a, 3, none⟩ = some (.pointer (some ⟨rr, 0, none⟩)) := h.at_.cell 3
  have c4 : w.cell? ⟨a, 4, none⟩ = some (.pointer (some ⟨dr, 0, none⟩)) := h.at_.cell 4
  have HP : Hid (Calls Tryd.prog 29 #[.pointer (some ⟨dr, 0, none⟩), .int .u64 d, .int .u64 y] (w.alloc (.cells zeroT 39)) fun e W' => e = .returned (.int .i64 5) ∧ W'.heap[w.heap.size]? = some (.cells zeroT 39 (0, 0)) ∧ Hid (On W' a R rr dr L Or Od S ws x ∧ Keeps (fun _ => False) w W')) :=
    (log_put_full dr 1024 L Od d y _ h1.at_.wr hz1 hF).mono fun e W' ⟨q1, q2⟩ => by
      have q3 := q2.keeps (Keeps.refl (fun _ => False) _)
      exact ⟨q1, q3.old b1 (fun f => f), h1.up q3, k1.trans q3⟩
  clear h h1 hz1 k1 hz
  unfold turn0 turnV
  go_enter Tryd.func11, Tryd.ntmps11
  go_wp2_with (first | (go_at_call 27; refine HI.mono ?_; rintro e w' ⟨rfl, hw'⟩; replace hw' := hw'.symm; subst hw') | (go_at_call 28; refine HH.mono ?_; rintro e w' ⟨rfl, hw'⟩; replace hw' := hw'.symm; subst hw'))
  refine HP.out.mono ?_
  rintro e W2 ⟨rfl, b2, h2⟩
  clear HP
  go_wp2_with (refine wpList_store_row' rfl 39 _ _ rfl w.heap.size _ rfl rfl 39 _ b2 size_turn rfl (by simp [Value.oneCell']) ?_)
  refine bodyPost_ret (turn_ret rfl _ _ w.heap.size _ _ b2 rfl rfl) rfl ?_
  exact ⟨rfl, h2.out.1.row HF.out _, h2.out.2.row (Nat.le_refl _) _⟩

set_option maxRecDepth 100000 in
set_option maxHeartbeats 1000000 in
theorem put_ok (a rr dr : Nat) (R : Sh) (L : List (Int × Int)) (Or Od : Nat → Prop) (S : Sd) (ws : List Int) (x : Int) (d y : Int) (w : World) (h : On w a R rr dr L Or Od S ws x) (hz : Tz w) (hp : S.ph = 1) (hr : d < (ws.length : Int)) (hF : ¬ Full 1024 L d) (hm : L.length < 4398046511104) :
    Calls Tryd.prog 11 #[.pointer (some ⟨a, 0, none⟩), .int .u64 d, .int .u64 y] w fun e w' => e = .returned (.tuple #[turnV 3 0 3 d y false, .int .i64 0]) ∧ ∃ Od', On w' a R rr dr (L ++ [(d, y)]) Or Od' (S.writes (putE S.wr d y)) ws x ∧ (∀ q, Od' q → Od q ∨ w.heap.size ≤ q) ∧ Keeps (Both a Or Od R) w w' := by
  have hf := h.far (Nat.le_refl w.heap.size)
  have HF : Hid (∀ q, Both a Or Od R q → q ≠ w.heap.size) := fun q hq e => hf (e ▸ hq)
  have hlt := lt_of_block h.at_.box
  have h1 := h.al (.cells zeroT 39)
  have hz1 : Tz (w.alloc (.cells zeroT 39)) := hz.keeps (Keeps.al w _) (fun f => f)
  have b1 : (w.alloc (.cells zeroT 39)).heap[w.heap.size]? = some (.cells zeroT 39 (0, 0)) := alloc_block w _
  have k1 : Keeps (fun _ => False) w (w.alloc (.cells zeroT 39)) := Keeps.al w _
  have HI := idle_yes a _ ((h1.at_.cell 5).trans (by rw [show (attV a R.rb R.ck rr dr S)[5]? = some (.int .i64 S.ph) from rfl, hp]))
  obtain ⟨nr, rr1⟩ := h1.sh.row
  have HH := C.has_at d R.rb _ _ _ rr1.le _ rr1.cell0
  rw [show decide (d < (ws.length : Int)) = true from by simp; omega] at HH
  have c0 : w.cell? ⟨a, 0, none⟩ = some (.pointer (some ⟨R.rb, 0, none⟩)) := h.at_.cell 0
  have c3 : w.cell? ⟨a, 3, none⟩ = some (.pointer (some ⟨rr, 0, none⟩)) := h.at_.cell 3
  have c4 : w.cell? ⟨a, 4, none⟩ = some (.pointer (some ⟨dr, 0, none⟩)) := h.at_.cell 4
  have hs1 : (w.alloc (.cells zeroT 39)).heap.size = w.heap.size + 1 := by simp
  have HP : Hid (Calls Tryd.prog 29 #[.pointer (some ⟨dr, 0, none⟩), .int .u64 d, .int .u64 y] (w.alloc (.cells zeroT 39)) fun e W' => e = .returned (.int .i64 0) ∧ W'.heap[w.heap.size]? = some (.cells zeroT 39 (0, 0)) ∧ Hid (∃ Od', On W' a R rr dr (L ++ [(d, y)]) Or Od' (S.writes (putE S.wr d y)) ws x ∧ (∀ q, Od' q → Od q ∨ w.heap.size + 1 ≤ q) ∧ Keeps (Both a Or Od R) w W')) :=
    (h1.put hz1 d y hm hF).mono fun e W' ⟨q1, Od', q2, q3, q4⟩ => ⟨q1, q4.old b1 hf, Od', q2, fun q hq => (q3 q hq).imp id (fun e => by omega), k1.up.trans q4⟩
  have HLT : Hid (∀ q, Both a Or Od R q → q < w.heap.size) := fun q hq => h.lt hq
  clear h h1 hz1 k1 hz
  unfold turnV
  go_enter Tryd.func11, Tryd.ntmps11
  go_wp2_with (first | (go_at_call 27; refine HI.mono ?_; rintro e w' ⟨rfl, hw'⟩; replace hw' := hw'.symm; subst hw') | (go_at_call 28; refine HH.mono ?_; rintro e w' ⟨rfl, hw'⟩; replace hw' := hw'.symm; subst hw'))
  refine HP.out.mono ?_
  rintro e W2 ⟨rfl, b2, h2⟩
  clear HP
  go_wp2_with (refine wpList_store_row' rfl 39 _ _ rfl w.heap.size _ rfl rfl 39 _ b2 size_turn rfl (by simp [Value.oneCell']) ?_)
  refine bodyPost_ret (turn_ret rfl _ _ w.heap.size _ _ b2 rfl rfl) rfl ?_
  obtain ⟨Od', q1, q2, q3⟩ := h2.out
  refine ⟨rfl, Od', q1.row (fun q hq e => ?_) _, fun q hq => (q2 q hq).imp id (fun e => by omega), q3.row (Nat.le_refl _) _⟩
  rcases hq with (hq | hq | hq) | hq
  · omega
  · have := HLT.out q (.inl (.inr (.inl hq))); omega
  · rcases q2 q hq with e' | e'
    · have := HLT.out q (.inl (.inr (.inr e'))); omega
    · omega
  · have := HLT.out q (.inr hq); omega

set_option maxRecDepth 100000 in
set_option maxHeartbeats 1000000 in
theorem end_none (a rr dr : Nat) (R : Sh) (L : List (Int × Int)) (Or Od : Nat → Prop) (S : Sd) (ws : List Int) (x : Int) (w : World) (h : On w a R rr dr L Or Od S ws x) (hz : Tz w) (hp : S.ph = 1) (hn : S.wr = []) :
    Calls Tryd.prog 20 #[.pointer (some ⟨a, 0, none⟩)] w fun e w' => e = .returned (.tuple #[turnV 4 0 6 0 (S.sn / 2) false, .int .i64 0]) ∧ w'.heap[a]? = some (.cells overV 80 (0, 0)) ∧ ShAt w' R ws x ∧ Keeps (Both a Or Od R) w w' := by
  have hf := h.far (Nat.le_refl w.heap.size)
  have HF : Hid (∀ q, Both a Or Od R q → q ≠ w.heap.size) := fun q hq e => hf (e ▸ hq)
  have hlt := lt_of_block h.at_.box
  have h1 := h.al (.cells zeroT 39)
  have hz1 : Tz (w.alloc (.cells zeroT 39)) := hz.keeps (Keeps.al w _) (fun f => f)
  have b1 : (w.alloc (.cells zeroT 39)).heap[w.heap.size]? = some (.cells zeroT 39 (0, 0)) := alloc_block w _
  have k1 : Keeps (fun _ => False) w (w.alloc (.cells zeroT 39)) := Keeps.al w _
  have HI := idle_yes a _ ((h1.at_.cell 5).trans (by rw [show (attV a R.rb R.ck rr dr S)[5]? = some (.int .i64 S.ph) from rfl, hp]))
  have c0 : w.cell? ⟨a, 0, none⟩ = some (.pointer (some ⟨R.rb, 0, none⟩)) := h.at_.cell 0
  have c3 : w.cell? ⟨a, 3, none⟩ = some (.pointer (some ⟨rr, 0, none⟩)) := h.at_.cell 3
  have c4 : w.cell? ⟨a, 4, none⟩ = some (.pointer (some ⟨dr, 0, none⟩)) := h.at_.cell 4
  have c2 : w.cell? ⟨a, 2, none⟩ = some (.int .u64 S.sn) := h.at_.cell 2
  have HLn := log_len dr 1024 L Od _ h1.at_.wr
  rw [h.at_.eq, hn] at HLn
  have HC : Hid (Calls Tryd.prog 38 #[.pointer (some ⟨a, 0, none⟩), .int .u64 S.sn] (w.alloc (.cells zeroT 39)) fun e W' => e = .returned (turnV 4 0 6 0 (S.sn / 2) false) ∧ W'.heap[w.heap.size]? = some (.cells zeroT 39 (0, 0)) ∧ Hid (W'.heap[a]? = some (.cells overV 80 (0, 0)) ∧ ShAt W' R ws x ∧ Keeps (Both a Or Od R) w W')) :=
    (commit_at a _ S.sn _ h1.at_.box rfl).mono fun e W' ⟨h3, h4, h5⟩ => ⟨h3, h5.old b1 (by omega), h4, h1.sh.att h1.dis (h5.mono (fun _ _ e => .inl e)), k1.up.trans (h5.mono (fun _ _ e => .inl (.inl e)))⟩
  have HLT : Hid (∀ q, R.own q → q ≠ w.heap.size) := fun q hq e => hf (.inr (e ▸ hq))
  clear h h1 hz1 k1 hz
  unfold turnV at HC ⊢
  go_enter Tryd.func20, Tryd.ntmps20
  go_wp2_with (first | (go_at_call 27; refine HI.mono ?_; rintro e w' ⟨rfl, hw'⟩; replace hw' := hw'.symm; subst hw') | (go_at_call 37; refine HLn.mono ?_; rintro e w' ⟨rfl, hw'⟩; replace hw' := hw'.symm; subst hw'))
  refine HC.out.mono ?_
  rintro e W2 ⟨rfl, b2, h2⟩
  clear HC
  go_wp2_with (refine wpList_store_row' rfl 39 _ _ rfl w.heap.size _ rfl rfl 39 _ b2 size_turn rfl (by simp [Value.oneCell']) ?_)
  refine bodyPost_ret (turn_ret rfl _ _ w.heap.size _ _ b2 rfl rfl) rfl ?_
  obtain ⟨q1, q2, q3⟩ := h2.out
  exact ⟨rfl, (setRow_keeps' (w := W2) (a := w.heap.size) _).old q1 (by omega), q2.kept (T := fun q => q = w.heap.size) (setRow_keeps' _) HLT.out, q3.row (Nat.le_refl _) _⟩

set_option maxRecDepth 100000 in
set_option maxHeartbeats 1000000 in
theorem end_lock (a rr dr : Nat) (R : Sh) (L : List (Int × Int)) (Or Od : Nat → Prop) (S : Sd) (ws : List Int) (x : Int) (w : World) (h : On w a R rr dr L Or Od S ws x) (hz : Tz w) (hp : S.ph = 1) (hn : S.wr ≠ []) (h0 : 0 ≤ S.sn) (hs : S.sn < 18446744073709551616) (he : S.sn % 2 = 0) :
    Calls Tryd.prog 20 #[.pointer (some ⟨a, 0, none⟩)] w fun e w' =>
      e = .returned (.tuple #[if x == S.sn then turnV 1 0 5 0 0 false else turnV 1 0 0 0 0 false, .int .i64 0]) ∧ On w' a R rr dr L Or Od (if x == S.sn then S.to 8 0 0 0 0 0 else S.to 4 7 0 0 0 0) ws (if x == S.sn then C.upw S.sn 1 else x) ∧ Keeps (Both a Or Od R) w w' := by
  have hf := h.far (Nat.le_refl w.heap.size)
  have HF : Hid (∀ q, Both a Or Od R q → q ≠ w.heap.size) := fun q hq e => hf (e ▸ hq)
  have hlt := lt_of_block h.at_.box
  have h1 := h.al (.cells zeroT 39)
  have hz1 : Tz (w.alloc (.cells zeroT 39)) := hz.keeps (Keeps.al w _) (fun f => f)
  have b1 : (w.alloc (.cells zeroT 39)).heap[w.heap.size]? = some (.cells zeroT 39 (0, 0)) := alloc_block w _
  have k1 : Keeps (fun _ => False) w (w.alloc (.cells zeroT 39)) := Keeps.al w _
  have HI := idle_yes a _ ((h1.at_.cell 5).trans (by rw [show (attV a R.rb R.ck rr dr S)[5]? = some (.int .i64 S.ph) from rfl, hp]))
  have c0 : w.cell? ⟨a, 0, none⟩ = some (.pointer (some ⟨R.rb, 0, none⟩)) := h.at_.cell 0
  have c3 : w.cell? ⟨a, 3, none⟩ = some (.pointer (some ⟨rr, 0, none⟩)) := h.at_.cell 3
  have c4 : w.cell? ⟨a, 4, none⟩ = some (.pointer (some ⟨dr, 0, none⟩)) := h.at_.cell 4
  have HLn := log_len dr 1024 L Od _ h1.at_.wr
  rw [h.at_.eq] at HLn
  have hpos : 0 < S.wr.length := List.length_pos_iff.2 hn
  have hne : ¬ ((S.wr.length : Int) = 0) := by omega
  have hne2 : ((S.wr.length : Int) == 0) = false := by simp; exact hn
  have hT : (if x == S.sn then turnV 1 0 5 0 0 false else turnV 1 0 0 0 0 false) = turnV 1 0 (if x == S.sn then 5 else 0) 0 0 false := by split <;> rfl
  have HC : Hid (Calls Tryd.prog 39 #[.pointer (some ⟨a, 0, none⟩)] (w.alloc (.cells zeroT 39)) fun e W' => e = .returned (.tuple #[turnV 1 0 (if x == S.sn then 5 else 0) 0 0 false, .int .i64 0]) ∧ W'.heap[w.heap.size]? = some (.cells zeroT 39 (0, 0)) ∧ Hid (On W' a R rr dr L Or Od (if x == S.sn then S.to 8 0 0 0 0 0 else S.to 4 7 0 0 0 0) ws (if x == S.sn then C.upw S.sn 1 else x) ∧ Keeps (Both a Or Od R) w W')) :=
    (lock_at a rr dr R L Or Od S ws x _ h1 h0 hs he).mono fun e W' ⟨h3, h4, h5⟩ => ⟨h3.trans (by rw [hT]), h5.old b1 hf, h4, k1.up.trans h5⟩
  clear h h1 hz1 k1 hz
  generalize (if x == S.sn then C.upw S.sn 1 else x) = x' at *
  generalize (if x == S.sn then S.to 8 0 0 0 0 0 else S.to 4 7 0 0 0 0) = S' at *
  simp only [hT]
  generalize (if x == S.sn then (5 : Int) else 0) = kd at *
  clear hT
  unfold turnV at HC ⊢
  go_enter Tryd.func20, Tryd.ntmps20
  go_wp2_with (first | (go_at_call 27; refine HI.mono ?_; rintro e w' ⟨rfl, hw'⟩; replace hw' := hw'.symm; subst hw') | (go_at_call 37; refine HLn.mono ?_; rintro e w' ⟨rfl, hw'⟩; replace hw' := hw'.symm; subst hw'))
  refine HC.out.mono ?_
  rintro e W2 ⟨rfl, b2, h2⟩
  clear HC
  go_wp2_with (refine wpList_store_row' rfl 39 _ _ rfl w.heap.size _ rfl rfl 39 _ b2 size_turn rfl (by simp [Value.oneCell']) ?_)
  refine bodyPost_ret (turn_ret rfl _ _ w.heap.size _ _ b2 rfl rfl) rfl ?_
  exact ⟨rfl, h2.out.1.row HF.out _, h2.out.2.row (Nat.le_refl _) _⟩
end Go.Proofs.YtmhinalgjfiliaaDoor
