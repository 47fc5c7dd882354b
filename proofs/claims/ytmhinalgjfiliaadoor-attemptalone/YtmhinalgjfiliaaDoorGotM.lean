/-
  No statement of the seat is proved here. (Several texts in one: AtQ, AtR, AtS.)
-/
import Derived.Test.YtmhinalgjfiliaaDoorAtL
import Derived.Test.YtmhinalgjfiliaaDoorAtP

/-
  The statement's own 'got': a get of an attempt that is alone. No statement of the seat is proved here.
-/
namespace Go.Proofs.YtmhinalgjfiliaaDoor
open Go.RowKit Go.Shelf

def sdA (rd wr : List (Int × Int)) : Sd := ⟨0, rd, wr, 1, 0, 0, 0, 0, 0⟩
/-- Words and marks as they stand in the statement's own lists. -/
structure Nw (W : World) (g h n : Nat) (ws : List Int) (bs : List Bool) : Prop where
  now : ∃ c : Array Value, W.heap[g]? = some (.cells c 34 (0, 0)) ∧ ∀ j, j < n → c[j]? = some (.int .u64 (ws[j]?.getD 0))
  has : ∃ c : Array Value, W.heap[h]? = some (.cells c 4 (0, 0)) ∧ ∀ j, j < n → c[j]? = some (.bool (bs[j]?.getD false))
theorem Nw.kept {T : Nat → Prop} {W W' : World} {g h n : Nat} {ws : List Int} {bs : List Bool} (q : Nw W g h n ws bs) (k : Keeps T W W') (hg : ¬ T g) (hh : ¬ T h) : Nw W' g h n ws bs := by
  obtain ⟨⟨c, h1, h2⟩, ⟨c', h3, h4⟩⟩ := q
  exact ⟨⟨c, k.old h1 hg, h2⟩, ⟨c', k.old h3 hh, h4⟩⟩
theorem Nw.cells {W : World} {g h n : Nat} {ws : List Int} {bs : List Bool} (q : Nw W g h n ws bs) {j : Nat} (hj : j < n) : W.cell? ⟨g, j, none⟩ = some (.int .u64 (ws[j]?.getD 0)) ∧ W.cell? ⟨h, j, none⟩ = some (.bool (bs[j]?.getD false)) := by
  obtain ⟨⟨c, h1, h2⟩, ⟨c', h3, h4⟩⟩ := q
  exact ⟨(cell_of_block h1 j).trans (h2 j hj), (cell_of_block h3 j).trans (h4 j hj)⟩
theorem Nw.lt {W : World} {g h n : Nat} {ws : List Int} {bs : List Bool} (q : Nw W g h n ws bs) : g < W.heap.size ∧ h < W.heap.size := by
  obtain ⟨⟨c, h1, h2⟩, ⟨c', h3, h4⟩⟩ := q
  exact ⟨lt_of_block h1, lt_of_block h3⟩

/-- An attempt that is alone, with the statement's lists: all is new since w. -/
structure Al (w W : World) (g h : Nat) (a : Nat) (R : Sh) (rr dr : Nat) (L : List (Int × Int)) (Or Od : Nat → Prop) (S : Sd) (ws : List Int) : Prop where
  on : On W a R rr dr L Or Od S ws 0
  tz : Tz W
  new : ∀ q, Both a Or Od R q → w.heap.size ≤ q
  pos : 0 < w.heap.size
  kp : Keeps (fun _ => False) w W
  nw : Nw W g h ws.length (nowE ws S.wr) (hasE ws.length S.wr)
  ng : ¬ Both a Or Od R g
  nh : ¬ Both a Or Od R h
  ne : g ≠ h
  gg : w.heap.size ≤ g
  gh : w.heap.size ≤ h
section
variable {w W W' : World} {g h : Nat} {a rr dr : Nat} {R : Sh} {L : List (Int × Int)} {Or Od Or' : Nat → Prop} {S S' : Sd} {ws : List Int}
/-- A step that leaves the redo log. -/
theorem Al.next (q : Al w W g h a R rr dr L Or Od S ws) (on' : On W' a R rr dr L Or' Od S' ws 0) (hS : S'.wr = S.wr) (n : ∀ q, Or' q → Or q ∨ W.heap.size ≤ q) (k : Keeps (Both a Or Od R) W W') : Al w W' g h a R rr dr L Or' Od S' ws := by
  have h0 := q.pos
  have hz := q.kp.size
  obtain ⟨l1, l2⟩ := q.nw.lt
  have hb : ∀ i, Both a Or' Od R i → Both a Or Od R i ∨ W.heap.size ≤ i := fun i hi => by
    rcases hi with (hi | hi | hi) | hi
    · exact .inl (.inl (.inl hi))
    · exact (n i hi).imp (fun e => .inl (.inr (.inl e))) id
    · exact .inl (.inl (.inr (.inr hi)))
    · exact .inl (.inr hi)
  refine ⟨on', q.tz.keeps k (fun e => by have := q.new 0 e; omega), fun i hi => ?_, q.pos, q.kp.step k (fun i hi e => by have := q.new i e; omega), by rw [hS]; exact q.nw.kept k q.ng q.nh, fun e => ?_, fun e => ?_, q.ne, q.gg, q.gh⟩
  · rcases hb i hi with e | e
    · exact q.new i e
    · omega
  · rcases hb g e with e | e
    · exact q.ng e
    · omega
  · rcases hb h e with e | e
    · exact q.nh e
    · omega
theorem Al.same (q : Al w W g h a R rr dr L Or Od S ws) (on' : On W' a R rr dr L Or Od S' ws 0) (hS : S'.wr = S.wr) (k : Keeps (Both a Or Od R) W W') : Al w W' g h a R rr dr L Or Od S' ws := q.next on' hS (fun _ hq => .inl hq) k
theorem Al.up (q : Al w W g h a R rr dr L Or Od S ws) (k : Keeps (fun _ => False) W W') : Al w W' g h a R rr dr L Or Od S ws := q.same (q.on.up k) rfl k.up
theorem Al.al (q : Al w W g h a R rr dr L Or Od S ws) (o : Obj) : Al w (W.alloc o) g h a R rr dr L Or Od S ws := q.up (Keeps.al W o)
end

section
variable {w W : World} {g h : Nat} {a rr dr : Nat} {R : Sh} {L : List (Int × Int)} {Or Od : Nat → Prop} {rd wr : List (Int × Int)} {ws : List Int}
set_option maxRecDepth 100000 in
set_option maxHeartbeats 1000000 in
theorem got_out (q : Al w W g h a R rr dr L Or Od (sdA rd wr) ws) (cN : Nat) (d : Int) (hk : ∀ e ∈ wr, e.1 < (ws.length : Int)) (hd : (ws.length : Int) ≤ d) (hl : ws.length ≤ 65536) :
    Calls Tryd.prog 12 #[.pointer (some ⟨a, 0, none⟩), .int .u64 d, .slice (some ⟨g, 0, none⟩) ws.length cN, .slice (some ⟨h, 0, none⟩) ws.length ws.length] W fun e W' => e = .returned (.bool true) ∧ Al w W' g h a R rr dr L Or Od (sdA rd wr) ws := by
  have hn : ¬ idxE wr d < wr.length := fun f => by
    obtain ⟨e, he, rfl⟩ := List.mem_map.1 (idxE_mem.1 f)
    have := hk e he; omega
  have HG : Hid (Calls Tryd.prog 15 #[.pointer (some ⟨a, 0, none⟩), .int .u64 d] W fun e W' => e = .returned (.tuple #[turn0, .int .i64 4]) ∧ Hid (∀ o, Al w (W'.alloc o) g h a R rr dr L Or Od (sdA rd wr) ws)) :=
    (get_range a rr dr R L Or Od (sdA rd wr) ws 0 d W q.on q.tz rfl hn hd).mono fun e W' ⟨h1, h2, h3⟩ => ⟨h1, fun o => (q.same h2 rfl h3.up).al o⟩
  have hnum := fun n W => num_any n W
  clear q hk hn
  unfold turn0 turnV at HG
  go_enter Tryd.func12, Tryd.ntmps12
  go_wp2_with fail
  refine HG.out.mono ?_
  rintro e W1 ⟨rfl, q1⟩
  clear HG
  go_wp2_with (go_at_call 8; refine (hnum _ _).mono ?_; rintro e w' ⟨rfl, hw'⟩; replace hw' := hw'.symm; subst hw')
  go_ret
  exact ⟨rfl, q1.out _⟩

set_option maxRecDepth 100000 in
set_option maxHeartbeats 1000000 in
theorem got_in (q : Al w W g h a R rr dr L Or Od (sdA rd wr) ws) (cN d : Nat) (hd : d < ws.length) (hl : ws.length ≤ 65536) (hi : idxE wr (d : Int) < wr.length) :
    Calls Tryd.prog 12 #[.pointer (some ⟨a, 0, none⟩), .int .u64 (d : Int), .slice (some ⟨g, 0, none⟩) ws.length cN, .slice (some ⟨h, 0, none⟩) ws.length ws.length] W fun e W' => e = .returned (.bool true) ∧ Al w W' g h a R rr dr L Or Od (sdA rd wr) ws := by
  have hN : (nowE ws wr)[d]?.getD 0 = wordE wr (d : Int) := by rw [nowE_at ws wr d hd, if_pos hi]; rfl
  have hB : (hasE ws.length wr)[d]?.getD false = true := by rw [hasE_at _ wr d hd]; simp [hi]
  have HG : Hid (Calls Tryd.prog 15 #[.pointer (some ⟨a, 0, none⟩), .int .u64 (d : Int)] W fun e W' => e = .returned (.tuple #[turnV 2 (wordE wr (d : Int)) 2 (d : Int) (wordE wr (d : Int)) true, .int .i64 0]) ∧ W'.cell? ⟨g, d, none⟩ = some (.int .u64 (wordE wr (d : Int))) ∧ W'.cell? ⟨h, d, none⟩ = some (.bool true) ∧ g < W'.heap.size ∧ h < W'.heap.size ∧ Hid (∀ o n, Al w ((W'.alloc o).drewN n) g h a R rr dr L Or Od (sdA rd wr) ws)) :=
    (get_own a rr dr R L Or Od (sdA rd wr) ws 0 (d : Int) W q.on q.tz rfl hi).mono fun e W' ⟨h1, h2, h3⟩ => by
      have q2 := q.same h2 rfl h3.up
      obtain ⟨e1, e2⟩ := q2.nw.cells hd
      rw [show (nowE ws (sdA rd wr).wr)[d]?.getD 0 = wordE wr (d : Int) from hN] at e1
      rw [show (hasE ws.length (sdA rd wr).wr)[d]?.getD false = true from hB] at e2
      exact ⟨h1, e1, e2, q2.nw.lt.1, q2.nw.lt.2, fun o n => (q2.al o).up ((like_drewN _ n).keeps (Keeps.refl (fun _ => False) _))⟩
  have hnum := fun n W => num_any n W
  have hdi : (d : Int) < (ws.length : Int) := by omega
  clear q hN hB hi
  generalize wordE wr (d : Int) = y at *
  unfold turnV at HG
  go_enter Tryd.func12, Tryd.ntmps12
  go_wp2_with fail
  refine HG.out.mono ?_
  rintro e W1 ⟨rfl, c1, c2, l1, l2, q1⟩
  clear HG
  go_wp2_with (go_at_call 8; refine (hnum _ _).mono ?_; rintro e w' ⟨rfl, hw'⟩; replace hw' := hw'.symm; subst hw')
  go_quiet ((go_at_call 8; exact (hnum _ _).mono (fun _ _ ⟨h1, h2⟩ => ⟨h1, _, h2⟩)))
  go_wp2_with fail
  go_ret
  exact ⟨rfl, q1.out _ _⟩
end
end Go.Proofs.YtmhinalgjfiliaaDoor


/-
  The statement's own 'got' where the cell is loaded; a Put of an attempt that is alone. No statement of the seat is proved here.
-/
namespace Go.Proofs.YtmhinalgjfiliaaDoor
open Go.RowKit Go.Shelf

section
variable {w W : World} {g h : Nat} {a rr dr : Nat} {R : Sh} {L : List (Int × Int)} {Or Od : Nat → Prop} {S : Sd} {rd wr : List (Int × Int)} {ws : List Int}
theorem Al.storeT (q : Al w W g h a R rr dr L Or Od S ws) {t : Nat} {cs : Array Value} (b : W.heap[t]? = some (.cells cs 39 (0, 0))) (hs : cs.size = 8) (nt : ¬ Both a Or Od R t) (tg : w.heap.size ≤ t) (t1 : t ≠ g) (t2 : t ≠ h) (o y k d z : Int) (ow : Bool) :
    ∃ X, (Instr.storeAt 39 (.pointer (some ⟨t, 0, none⟩)) (turnV o y k d z ow)).run Tryd.prog W = .ok () X ∧ Al w X g h a R rr dr L Or Od S ws ∧ X.heap[t]? = some (.cells (turnA o y k d z ow) 39 (0, 0)) := by
  have hk := setRow_keeps' (w := W) (a := t) (turnA o y k d z ow)
  have h0 := q.pos
  refine ⟨W.setRow t (turnA o y k d z ow), ?_, ⟨q.on.row (b := t) (fun i hi e => nt (e ▸ hi)) _, q.tz.keeps hk (fun e => by omega), q.new, q.pos, q.kp.step hk (fun i hi e => by omega), q.nw.kept hk (Ne.symm t1) (Ne.symm t2), q.ng, q.nh, q.ne, q.gg, q.gh⟩, setRow_heap W t cs _ _ _ b⟩
  show (Instr.storeAt 39 (.pointer (some ⟨t, 0, none⟩)) (.agg (turnA o y k d z ow))).run Tryd.prog W = _
  simp only [Instr.storeAt, Instr.sureAddr, Sem.run_bind, Sem.run_pure, Result.andThen_ok, run_storeVar_row W t 39 39 cs (turnA o y k d z ow) b size_turn hs (turnA_one _ _ _ _ _ _)]

set_option maxRecDepth 100000 in
set_option maxHeartbeats 1000000 in
theorem got_new (q : Al w W g h a R rr dr L Or Od (sdA rd wr) ws) (cN d : Nat) (hd : d < ws.length) (hl : ws.length ≤ 65536) (hi : ¬ idxE wr (d : Int) < wr.length) (hr : rd.length < 1024) :
    Calls Tryd.prog 12 #[.pointer (some ⟨a, 0, none⟩), .int .u64 (d : Int), .slice (some ⟨g, 0, none⟩) ws.length cN, .slice (some ⟨h, 0, none⟩) ws.length ws.length] W fun e W' => e = .returned (.bool true) ∧ ∃ rd' Or', rd'.length = rd.length + 1 ∧ Al w W' g h a R rr dr L Or' Od (sdA rd' wr) ws := by
  have hN : (nowE ws wr)[d]?.getD 0 = C.wordAt ws (d : Int) := by
    rw [nowE_at ws wr d hd, if_neg hi]
    unfold C.wordAt
    rw [if_pos (by omega)]
    rfl
  have hB : (hasE ws.length wr)[d]?.getD false = false := by rw [hasE_at _ wr d hd]; simp [hi]
  have HG : Hid (Calls Tryd.prog 15 #[.pointer (some ⟨a, 0, none⟩), .int .u64 (d : Int)] W fun e W' => e = .returned (.tuple #[turnV 1 0 0 0 0 false, .int .i64 0]) ∧ W'.cell? ⟨h, d, none⟩ = some (.bool false) ∧ h < W'.heap.size ∧ Hid (Al w W' g h a R rr dr L Or Od ((sdA rd wr).to 3 0 (d : Int) (C.wordAt ws (d : Int)) 0 0) ws)) :=
    (get_fetch a rr dr R L Or Od (sdA rd wr) ws 0 (d : Int) W q.on q.tz rfl hi (by omega) (by omega) hr).mono fun e W' ⟨h1, h2, h3⟩ => by
      have q2 := q.same h2 rfl h3
      obtain ⟨e1, e2⟩ := q2.nw.cells hd
      rw [show (hasE ws.length ((sdA rd wr).to 3 0 (d : Int) (C.wordAt ws (d : Int)) 0 0).wr)[d]?.getD false = false from hB] at e2
      exact ⟨h1, e2, q2.nw.lt.2, q2⟩
  have HS : Hid (∀ W1 o, Al w W1 g h a R rr dr L Or Od ((sdA rd wr).to 3 0 (d : Int) (C.wordAt ws (d : Int)) 0 0) ws → Calls Tryd.prog 16 #[.pointer (some ⟨a, 0, none⟩)] (W1.alloc o) fun e W' => e = .returned (.tuple #[turnV 2 (C.wordAt ws (d : Int)) 2 (d : Int) (C.wordAt ws (d : Int)) false, .int .i64 0]) ∧ Hid (W'.heap[W1.heap.size]? = some o ∧ ∃ Or', Al w W' g h a R rr dr L Or' Od (sdA (rd ++ [((d : Int), C.wordAt ws (d : Int))]) wr) ws ∧ ¬ Both a Or' Od R W1.heap.size)) := fun W1 o q1 => by
    have q2 := q1.al o
    have hf := q1.on.far (Nat.le_refl W1.heap.size)
    have hsz : (W1.alloc o).heap.size = W1.heap.size + 1 := by simp
    refine (st_look (S := (sdA rd wr).to 3 0 (d : Int) (C.wordAt ws (d : Int)) 0 0) q2.on rfl hr).mono fun e W' ⟨h1, Or', h2, h3, h4⟩ => ⟨h1, h4.old (alloc_block W1 o) hf, Or', q2.next h2 rfl h3 h4, fun f => ?_⟩
    rcases f with (f | f | f) | f
    · exact hf (.inl (.inl f))
    · rcases h3 _ f with f | f
      · exact hf (.inl (.inr (.inl f)))
      · omega
    · exact hf (.inl (.inr (.inr f)))
    · exact hf (.inr f)
  have hnum := fun n W => num_any n W
  have hdi : (d : Int) < (ws.length : Int) := by omega
  have HNW : Hid ((nowE ws wr)[d]?.getD 0 = C.wordAt ws (d : Int) ∧ (hasE ws.length wr)[d]?.getD false = false) := ⟨hN, hB⟩
  have hzz := q.kp.size
  have HLT : Hid (∀ W1, Al w W1 g h a R rr dr L Or Od ((sdA rd wr).to 3 0 (d : Int) (C.wordAt ws (d : Int)) 0 0) ws → w.heap.size ≤ W1.heap.size ∧ W1.heap.size ≠ g ∧ W1.heap.size ≠ h) := fun W1 q1 => by
    have := q1.kp.size
    have := q1.nw.lt
    omega
  clear q hN hB hi hzz
  generalize C.wordAt ws (d : Int) = y at *
  unfold turnV at HG HS
  go_enter Tryd.func12, Tryd.ntmps12
  go_wp2_with fail
  refine HG.out.mono ?_
  rintro e W1 ⟨rfl, c2, l2, q1⟩
  have HS1 := fun o => HS.out W1 o q1.out
  have HS2 : Hid (∀ o, _) := HS1
  have HL1 := HLT.out W1 q1.out
  have HL2 : Hid (_ ∧ _) := HL1
  clear HG HS HS1 q1 HLT HL1
  go_wp2_with (go_at_call 8; refine (hnum _ _).mono ?_; rintro e w' ⟨rfl, hw'⟩; replace hw' := hw'.symm; subst hw')
  refine (HS2.out _).mono ?_
  rintro e W2 ⟨rfl, h2⟩
  obtain ⟨b2, Or2, q2, nt2⟩ := h2.out
  obtain ⟨tg, t1, t2⟩ := HL2.out
  generalize W1.heap.size = t at *
  clear h2 HS2 HL2
  obtain ⟨X, hr2, q3, b3⟩ := q2.storeT b2 rfl nt2 tg t1 t2 2 y 2 (d : Int) y false
  obtain ⟨e1, e2⟩ := q3.nw.cells hd
  rw [show (nowE ws (sdA (rd ++ [((d : Int), y)]) wr).wr)[d]?.getD 0 = y from HNW.out.1] at e1
  rw [show (hasE ws.length (sdA (rd ++ [((d : Int), y)]) wr).wr)[d]?.getD false = false from HNW.out.2] at e2
  have u0 : X.cell? ⟨t, 0, none⟩ = some (.int .i64 2) := cell_of_block b3 0
  have u1 : X.cell? ⟨t, 1, none⟩ = some (.int .u64 y) := cell_of_block b3 1
  have u6 : X.cell? ⟨t, 6, none⟩ = some (.bool false) := cell_of_block b3 6
  have q4 : Hid (∀ n, Al w (X.drewN n) g h a R rr dr L Or2 Od (sdA (rd ++ [((d : Int), y)]) wr) ws) := fun n => q3.up ((like_drewN _ n).keeps (Keeps.refl (fun _ => False) _))
  clear q2 q3 b2 b3 nt2 tg t1 t2 HNW c2 l2
  unfold turnV at hr2
  go_wp2_with (first
    | (refine wpList_store_run rfl 39 _ _ rfl rfl rfl hr2 ?_)
    | (go_at_call 8; refine (hnum _ _).mono ?_; rintro e w' ⟨rfl, hw'⟩; replace hw' := hw'.symm; subst hw'))
  go_quiet ((go_at_call 8; exact (hnum _ _).mono (fun _ _ ⟨h1, h2⟩ => ⟨h1, _, h2⟩)))
  go_wp2_with fail
  go_ret
  exact ⟨rfl, _, Or2, by simp, q4.out _⟩
end
end Go.Proofs.YtmhinalgjfiliaaDoor


/-
  The statement's own 'committed': an attempt that is alone comes to its end. No statement of the seat is proved here.
-/
namespace Go.Proofs.YtmhinalgjfiliaaDoor
open Go.RowKit Go.Shelf

set_option maxHeartbeats 400000 in
theorem words_at (b c : Nat) (ws : List Int) (n : Int) (w : World) (h : C.RowAt w 59 34 b c ws n) :
    Calls Tryd.prog 31 #[.pointer (some ⟨b, 0, none⟩)] w fun e w' => e = .returned (.slice (some ⟨w.heap.size, 0, none⟩) ws.length ws.length) ∧ w'.heap[w.heap.size]? = some (.cells (C.u64s ws) 34 (0, 0)) ∧ Keeps (fun _ => False) w w' := by
  have c0 := h.cell0
  have hp := h.pos
  have hm := C.made_at b _ ws.length ws.length w c0
  rw [show decide (0 < ws.length) = true from by simp; omega] at hm
  have hc := C.clone_any (some ⟨c, 0, none⟩) ws.length ws.length ws w rfl h.le (C.Reads.block h.words)
  have HC : Hid (Calls Tryd.prog 18 #[.slice (some ⟨c, 0, none⟩) ws.length ws.length] w fun e w' => e = .returned (.slice (some ⟨w.heap.size, 0, none⟩) ws.length ws.length) ∧ Hid (w'.heap[w.heap.size]? = some (.cells (C.u64s ws) 34 (0, 0)) ∧ Keeps (fun _ => False) w w')) := hc.mono fun e w' ⟨h1, h2, h3, h4⟩ => ⟨h1, h2, h4⟩
  clear h hc
  go_enter Tryd.func31, Tryd.ntmps31
  go_wp2_with (first | (go_at_call 52; refine hm.mono ?_; rintro e w' ⟨rfl, hw'⟩; replace hw' := hw'.symm; subst hw') | (go_at_call 18; refine HC.out.mono ?_; rintro e w2 ⟨rfl, h2⟩))
  go_ret
  exact ⟨rfl, h2.out⟩

/-- An attempt that is over, with the statement's lists. -/
structure Fa (w W : World) (t g h : Nat) (z : Int) (R : Sh) (wn : List Int) (x : Int) (ws : List Int) (wr : List (Int × Int)) : Prop where
  sh : ShAt W R wn x
  hT : W.heap[t]? = some (.cells (turnA 4 0 6 0 z false) 39 (0, 0))
  nw : Nw W g h ws.length (nowE ws wr) (hasE ws.length wr)
  nt : ¬ R.own t
  ng : ¬ R.own g
  nh : ¬ R.own h
  new : ∀ q, R.own q → w.heap.size ≤ q
  kp : Keeps (fun _ => False) w W
/-- One that stores its entries: so many are stored. -/
structure Gk (w W : World) (t g h : Nat) (kd : Int) (a : Nat) (R : Sh) (rr dr : Nat) (L : List (Int × Int)) (Or Od : Nat → Prop) (S : Sd) (ws : List Int) (wr : List (Int × Int)) (k : Nat) : Prop where
  on : On W a R rr dr L Or Od S (nowE ws (wr.take k)) 1
  hT : W.heap[t]? = some (.cells (turnA 1 0 kd 0 0 false) 39 (0, 0))
  nw : Nw W g h ws.length (nowE ws wr) (hasE ws.length wr)
  nt : ¬ Both a Or Od R t
  ng : ¬ Both a Or Od R g
  nh : ¬ Both a Or Od R h
  t1 : t ≠ g
  t2 : t ≠ h
  tg : w.heap.size ≤ t
  new : ∀ q, Both a Or Od R q → w.heap.size ≤ q
  kp : Keeps (fun _ => False) w W
section
variable {w W W' : World} {t g h : Nat} {z kd : Int} {a rr dr : Nat} {R : Sh} {L : List (Int × Int)} {Or Od : Nat → Prop} {S S' : Sd} {wn ws : List Int} {wr : List (Int × Int)} {x : Int} {k k' : Nat}
theorem run_turn {cs : Array Value} (b : W.heap[t]? = some (.cells cs 39 (0, 0))) (hs : cs.size = 8) (o y kd d z : Int) (ow : Bool) : (Instr.storeAt 39 (.pointer (some ⟨t, 0, none⟩)) (turnV o y kd d z ow)).run Tryd.prog W = .ok () (W.setRow t (turnA o y kd d z ow)) := by
  show (Instr.storeAt 39 (.pointer (some ⟨t, 0, none⟩)) (.agg (turnA o y kd d z ow))).run Tryd.prog W = _
  simp only [Instr.storeAt, Instr.sureAddr, Sem.run_bind, Sem.run_pure, Result.andThen_ok, run_storeVar_row W t 39 39 cs (turnA o y kd d z ow) b size_turn hs (turnA_one _ _ _ _ _ _)]
theorem Gk.next (q : Gk w W t g h kd a R rr dr L Or Od S ws wr k) (on' : On W' a R rr dr L Or Od S' (nowE ws (wr.take k')) 1) (kk : Keeps (Both a Or Od R) W W') :
    ∃ X, (Instr.storeAt 39 (.pointer (some ⟨t, 0, none⟩)) (turnV 1 0 0 0 0 false)).run Tryd.prog W' = .ok () X ∧ Gk w X t g h 0 a R rr dr L Or Od S' ws wr k' := by
  have b := kk.old q.hT q.nt
  have hk := setRow_keeps' (w := W') (a := t) (turnA 1 0 0 0 0 false)
  exact ⟨_, run_turn b rfl 1 0 0 0 0 false, ⟨on'.row (b := t) (fun i hi e => q.nt (e ▸ hi)) _, setRow_heap W' t _ _ _ _ b, (q.nw.kept kk q.ng q.nh).kept hk (Ne.symm q.t1) (Ne.symm q.t2), q.nt, q.ng, q.nh, q.t1, q.t2, q.tg, q.new, (q.kp.step kk (fun i hi e => by have := q.new i e; omega)).step hk (fun i hi e => by have := q.tg; omega)⟩⟩
theorem Gk.over (q : Gk w W t g h kd a R rr dr L Or Od S ws wr k) (sh : ShAt W' R (nowE ws (wr.take k)) x) (kk : Keeps (Both a Or Od R) W W') (z : Int) :
    ∃ X, (Instr.storeAt 39 (.pointer (some ⟨t, 0, none⟩)) (turnV 4 0 6 0 z false)).run Tryd.prog W' = .ok () X ∧ Fa w X t g h z R (nowE ws (wr.take k)) x ws wr := by
  have b := kk.old q.hT q.nt
  have hk := setRow_keeps' (w := W') (a := t) (turnA 4 0 6 0 z false)
  exact ⟨_, run_turn b rfl 4 0 6 0 z false, ⟨sh.kept hk (fun i hi e => q.nt (.inr (e ▸ hi))), setRow_heap W' t _ _ _ _ b, (q.nw.kept kk q.ng q.nh).kept hk (Ne.symm q.t1) (Ne.symm q.t2), fun e => q.nt (.inr e), fun e => q.ng (.inr e), fun e => q.nh (.inr e), fun i hi => q.new i (.inr hi), (q.kp.step kk (fun i hi e => by have := q.new i e; omega)).step hk (fun i hi e => by have := q.tg; omega)⟩⟩
theorem Fa.clock (q : Fa w W t g h z R wn x ws wr) : Calls Tryd.prog 22 #[.pointer (some ⟨R.ck, 0, none⟩)] W fun e W' => e = .returned (.tuple #[.int .u64 x, .int .i64 0]) ∧ Fa w W' t g h z R wn x ws wr := by
  obtain ⟨st, c⟩ := q.sh.clk
  refine (C.cload_at _ _ _ _ _ W c).mono fun e W' ⟨h1, h2, h3⟩ => ⟨h1, ?_⟩
  have h4 : Keeps R.own W W' := h3.mono (fun _ _ e => .inr (.inr e))
  exact ⟨q.sh.clk' h2 h3, h4.old q.hT q.nt, q.nw.kept h4 q.ng q.nh, q.nt, q.ng, q.nh, q.new, q.kp.step h4 (fun i hi e => by have := q.new i e; omega)⟩
/-- The row's words are those of the statement's list. -/
theorem Fa.words (q : Fa w W t g h z R (nowE ws wr) x ws wr) (cN : Nat) (hl : ws.length ≤ 65536) : Calls Tryd.prog 31 #[.pointer (some ⟨R.rb, 0, none⟩)] W fun e W' => e = .returned (.slice (some ⟨W.heap.size, 0, none⟩) ws.length ws.length) ∧ Hid (Calls Tryd.prog 30 #[.slice (some ⟨W.heap.size, 0, none⟩) ws.length ws.length, .slice (some ⟨g, 0, none⟩) ws.length cN] W' fun e w' => e = .returned (.bool true) ∧ Keeps (fun _ => False) w w') := by
  obtain ⟨n, r⟩ := q.sh.row
  have hw := words_at _ _ _ n W r
  rw [nowE_len] at hw
  refine hw.mono fun e W' ⟨h1, h2, h3⟩ => ⟨h1, ?_⟩
  have hlen := nowE_len ws wr
  have nw' := q.nw.kept h3 (fun f => f) (fun f => f)
  have r1 : Reads W' (.slice (some ⟨W.heap.size, 0, none⟩) ws.length ws.length) (nowE ws wr) := by
    refine ⟨by omega, _, ws.length, by rw [hlen], fun i hi => ⟨_, 0, rfl, ?_⟩⟩
    rw [Nat.zero_add, cell_of_block h2 i, C.u64s_get _ i hi]
    rfl
  have r2 : Reads W' (.slice (some ⟨g, 0, none⟩) ws.length cN) (nowE ws wr) := by
    refine ⟨by omega, _, cN, by rw [hlen], fun i hi => ⟨_, 0, rfl, ?_⟩⟩
    rw [Nat.zero_add, (nw'.cells (by omega)).1]
    rfl
  exact (same_at _ _ (nowE ws wr) W' r1 r2).mono fun e w' ⟨g1, g2⟩ => ⟨g1, (q.kp.trans h3).trans (g2.like.keeps (Keeps.refl (fun _ => False) _))⟩
end

set_option maxRecDepth 100000 in
set_option maxHeartbeats 2000000 in
theorem committed_none {w W : World} {g h a rr dr : Nat} {R : Sh} {L : List (Int × Int)} {Or Od : Nat → Prop} {rd wr : List (Int × Int)} {ws : List Int} (q : Al w W g h a R rr dr L Or Od (sdA rd wr) ws) (cN : Nat) (hl : ws.length ≤ 65536) (hn : wr = []) :
    Calls Tryd.prog 13 #[.pointer (some ⟨a, 0, none⟩), .int .i64 (wr.length : Int), .pointer (some ⟨R.rb, 0, none⟩), .pointer (some ⟨R.ck, 0, none⟩), .slice (some ⟨g, 0, none⟩) ws.length cN] W fun e W' => e = .returned (.bool true) ∧ Keeps (fun _ => False) w W' := by
  have hnum := fun n W => num_any n W
  subst hn
  have HE : Hid (Calls Tryd.prog 20 #[.pointer (some ⟨a, 0, none⟩)] W fun e W' => e = .returned (.tuple #[turnV 4 0 6 0 0 false, .int .i64 0]) ∧ Hid (Fa w (W'.alloc (.cells (turnA 4 0 6 0 0 false) 39)) W'.heap.size g h 0 R (nowE ws []) 0 ws [])) :=
    (end_none a rr dr R L Or Od (sdA rd []) ws 0 W q.on q.tz rfl rfl).mono fun e W' ⟨h1, h2, h3, h4⟩ => ⟨h1, by
      have k : Keeps (Both a Or Od R) W (W'.alloc (.cells (turnA 4 0 6 0 0 false) 39)) := h4.trans (Keeps.al W' _).up
      refine ⟨by rw [nowE_nil]; exact h3.kept (Keeps.al W' _) (fun _ _ f => f), alloc_block W' _, q.nw.kept k q.ng q.nh, fun e => by have := h3.lt e; omega, fun e => q.ng (.inr e), fun e => q.nh (.inr e), fun i hi => q.new i (.inr hi), q.kp.step k (fun i hi e => by have := q.new i e; omega)⟩⟩
  clear q
  unfold turnV at HE
  go_enter Tryd.func13, Tryd.ntmps13
  go_wp2_with fail
  refine HE.out.mono ?_
  rintro e W1 ⟨rfl, F1⟩
  clear HE
  go_wp2_with fail
  go_loopw [12, 13] (fun v u wr => v = .int .i64 0 ∧ u = .int .i64 1 ∧ wr = W1.alloc (.cells (turnA 4 0 6 0 0 false) 39)) (fun _ _ _ => 0)
  case atStart => exact ⟨rfl, rfl, rfl⟩
  case round =>
    obtain ⟨rfl, rfl, rfl⟩ := hrel
    have F2 := F1.out
    clear F1
    have v0 : (W1.alloc (.cells (turnA 4 0 6 0 0 false) 39)).cell? ⟨W1.heap.size, 0, none⟩ = some (.int .i64 4) := cell_of_block F2.hT 0
    generalize hX : W1.alloc (.cells (turnA 4 0 6 0 0 false) 39) = X at *
    generalize W1.heap.size = t at *
    clear hX
    go_wp2_with (go_at_call 8; refine (hnum _ _).mono ?_; rintro e w' ⟨rfl, hw'⟩; replace hw' := hw'.symm; subst hw')
    have HC := F2.clock
    have HC' : Hid (Calls _ _ _ _ _) := HC
    clear HC F2
    go_wp2_with fail
    refine HC'.out.mono ?_
    rintro e Wc ⟨rfl, Fc⟩
    clear HC'
    have u0 : Wc.cell? ⟨t, 0, none⟩ = some (.int .i64 4) := cell_of_block Fc.hT 0
    have u5 : Wc.cell? ⟨t, 5, none⟩ = some (.int .u64 0) := cell_of_block Fc.hT 5
    have HW := Fc.words cN hl
    clear Fc
    go_wp2_with (go_at_call 8; refine (hnum _ _).mono ?_; rintro e w' ⟨rfl, hw'⟩; replace hw' := hw'.symm; subst hw')
    refine HW.mono ?_
    rintro e Wd ⟨rfl, HS⟩
    clear HW u0 u5
    go_wp2_with fail
    refine HS.out.mono ?_
    rintro e We ⟨rfl, ke⟩
    clear HS
    go_wp2_with fail
    go_ret
    exact ⟨rfl, ke⟩

set_option maxRecDepth 100000 in
set_option maxHeartbeats 2000000 in
theorem committed_some {w W : World} {g h a rr dr : Nat} {R : Sh} {L : List (Int × Int)} {Or Od : Nat → Prop} {rd el : List (Int × Int)} {ws : List Int} (q : Al w W g h a R rr dr L Or Od (sdA rd el) ws) (cN : Nat) (hl : ws.length ≤ 65536) (hn : el ≠ []) (hk : ∀ e ∈ el, 0 ≤ e.1 ∧ e.1 < (ws.length : Int)) (hm : el.length ≤ 500) (hd : (el.map Prod.fst).Nodup) :
    Calls Tryd.prog 13 #[.pointer (some ⟨a, 0, none⟩), .int .i64 (el.length : Int), .pointer (some ⟨R.rb, 0, none⟩), .pointer (some ⟨R.ck, 0, none⟩), .slice (some ⟨g, 0, none⟩) ws.length cN] W fun e W' => e = .returned (.bool true) ∧ Keeps (fun _ => False) w W' := by
  have hnum := fun n W => num_any n W
  have hpos : 0 < el.length := List.length_pos_iff.2 hn
  have HE : Hid (Calls Tryd.prog 20 #[.pointer (some ⟨a, 0, none⟩)] W fun e W' => e = .returned (.tuple #[turnV 1 0 5 0 0 false, .int .i64 0]) ∧ Hid (Gk w (W'.alloc (.cells (turnA 1 0 5 0 0 false) 39)) W'.heap.size g h 5 a R rr dr L Or Od ((sdA rd el).to 8 0 0 0 0 0) ws el 0)) :=
    (end_lock a rr dr R L Or Od (sdA rd el) ws 0 W q.on q.tz rfl hn (by show (0 : Int) ≤ 0; decide) (by show (0 : Int) < 18446744073709551616; decide) (by show (0 : Int) % 2 = 0; decide)).mono fun e W' ⟨h1, h2, h4⟩ => ⟨h1, by
      have k : Keeps (Both a Or Od R) W (W'.alloc (.cells (turnA 1 0 5 0 0 false) 39)) := h4.trans (Keeps.al W' _).up
      have l := q.nw.lt
      have l0 := h4.size
      have hs := q.kp.size
      have ho : On W' a R rr dr L Or Od ((sdA rd el).to 8 0 0 0 0 0) ws 1 := h2
      refine ⟨by rw [List.take_zero, nowE_nil]; exact ho.al _, alloc_block W' _, q.nw.kept k q.ng q.nh, ho.far (Nat.le_refl _), q.ng, q.nh, by omega, by omega, by omega, q.new, q.kp.step k (fun i hi e => by have := q.new i e; omega)⟩⟩
  have HST : Hid (∀ (W : World) (t : Nat) (kd : Int) (k : Nat), Gk w W t g h kd a R rr dr L Or Od ((sdA rd el).to 8 0 0 0 0 (k : Int)) ws el k → k + 1 < el.length → Calls Tryd.prog 16 #[.pointer (some ⟨a, 0, none⟩)] W fun e W' => e = .returned (.tuple #[turnV 1 0 0 0 0 false, .int .i64 0]) ∧ ∃ X, (Instr.storeAt 39 (.pointer (some ⟨t, 0, none⟩)) (turnV 1 0 0 0 0 false)).run Tryd.prog W' = .ok () X ∧ Gk w X t g h 0 a R rr dr L Or Od ((sdA rd el).to 8 0 0 0 0 ((k + 1 : Nat) : Int)) ws el (k + 1)) := fun W t kd k G hlt => by
    obtain ⟨e0, he⟩ : ∃ e, el[k]? = some e := ⟨_, List.getElem?_eq_getElem (by omega)⟩
    obtain ⟨d, y⟩ := e0
    have hb := hk (d, y) (List.mem_of_getElem? he)
    refine (st_store_more G.on rfl k d y rfl he hb.1 hlt (by show el.length ≤ 1024; omega)).mono fun e W' ⟨h1, h2, h3⟩ => ⟨h1, ?_⟩
    rw [nowE_take ws hd he hb.1 hb.2] at h2
    exact G.next h2 h3
  have HSL : Hid (∀ (W : World) (t : Nat) (kd : Int) (k : Nat), Gk w W t g h kd a R rr dr L Or Od ((sdA rd el).to 8 0 0 0 0 (k : Int)) ws el k → k + 1 = el.length → Calls Tryd.prog 16 #[.pointer (some ⟨a, 0, none⟩)] W fun e W' => e = .returned (.tuple #[turnV 1 0 0 0 0 false, .int .i64 0]) ∧ ∃ X, (Instr.storeAt 39 (.pointer (some ⟨t, 0, none⟩)) (turnV 1 0 0 0 0 false)).run Tryd.prog W' = .ok () X ∧ Gk w X t g h 0 a R rr dr L Or Od ((sdA rd el).to 9 0 0 0 0 0) ws el (k + 1)) := fun W t kd k G hlt => by
    obtain ⟨e0, he⟩ : ∃ e, el[k]? = some e := ⟨_, List.getElem?_eq_getElem (by omega)⟩
    obtain ⟨d, y⟩ := e0
    have hb := hk (d, y) (List.mem_of_getElem? he)
    refine (st_store_last G.on rfl k d y rfl he hb.1 hlt (by show el.length ≤ 1024; omega)).mono fun e W' ⟨h1, h2, h3⟩ => ⟨h1, ?_⟩
    rw [nowE_take ws hd he hb.1 hb.2] at h2
    exact G.next h2 h3
  have HFR : Hid (∀ (W : World) (t : Nat) (kd : Int), Gk w W t g h kd a R rr dr L Or Od ((sdA rd el).to 9 0 0 0 0 0) ws el el.length → Calls Tryd.prog 16 #[.pointer (some ⟨a, 0, none⟩)] W fun e W' => e = .returned (.tuple #[turnV 4 0 6 0 1 false, .int .i64 0]) ∧ ∃ X, (Instr.storeAt 39 (.pointer (some ⟨t, 0, none⟩)) (turnV 4 0 6 0 1 false)).run Tryd.prog W' = .ok () X ∧ Fa w X t g h 1 R (nowE ws el) 2 ws el) := fun W t kd G => by
    refine (st_free G.on rfl (by show (0 : Int) ≤ 0; decide) (by show (0 : Int) < 18446744073709551616; decide) (by show (0 : Int) % 2 = 0; decide)).mono fun e W' ⟨h1, h2, h3, h4⟩ => ⟨h1, ?_⟩
    have := G.over h3 h4 1
    rw [List.take_length] at this
    exact this
  clear q hk hd
  unfold turnV at HE HST HSL HFR
  go_enter Tryd.func13, Tryd.ntmps13
  go_wp2_with fail
  refine HE.out.mono ?_
  rintro e W1 ⟨rfl, G1⟩
  clear HE
  go_wp2_with fail
  go_loopw [12, 13] (fun v u X => v = .int .i64 0 ∧ ((∃ k : Nat, k < el.length ∧ u = .int .i64 (k + 1) ∧ ∃ kd, Gk w X W1.heap.size g h kd a R rr dr L Or Od ((sdA rd el).to 8 0 0 0 0 (k : Int)) ws el k) ∨ (u = .int .i64 (el.length + 1) ∧ ∃ kd, Gk w X W1.heap.size g h kd a R rr dr L Or Od ((sdA rd el).to 9 0 0 0 0 0) ws el el.length) ∨ (u = .int .i64 (el.length + 2) ∧ Fa w X W1.heap.size g h 1 R (nowE ws el) 2 ws el))) (fun _ u _ => 3000 - (intOf u).toNat)
  case atStart => exact ⟨rfl, .inl ⟨0, hpos, rfl, 5, G1.out⟩⟩
  case round =>
    clear G1
    generalize W1.heap.size = t at *
    obtain ⟨rfl, (⟨k, hk, rfl, kd, G⟩ | ⟨rfl, kd, G⟩ | ⟨rfl, F⟩)⟩ := hrel
    · have v0 : wr.cell? ⟨t, 0, none⟩ = some (.int .i64 1) := cell_of_block G.hT 0
      have hk3 : (k : Int) + 1 < 3000 := by omega
      by_cases hlt : k + 1 < el.length
      · have HS := HST.out wr t kd k G hlt
        clear G HST HSL HFR
        go_wp2_with (go_at_call 8; refine (hnum _ _).mono ?_; rintro e w' ⟨rfl, hw'⟩; replace hw' := hw'.symm; subst hw')
        refine HS.mono ?_
        rintro e W2 ⟨rfl, X2, hr, G2⟩
        clear HS v0
        go_wp2_with (refine wpList_store_run rfl 39 _ _ rfl rfl rfl hr ?_)
        go_roundw
        case rel => exact ⟨rfl, .inl ⟨k + 1, hlt, by go_num, 0, G2⟩⟩
        case measure => simp [intOf]; omega
      · have he : k + 1 = el.length := by omega
        have HS := HSL.out wr t kd k G he
        clear G HST HSL HFR
        go_wp2_with (go_at_call 8; refine (hnum _ _).mono ?_; rintro e w' ⟨rfl, hw'⟩; replace hw' := hw'.symm; subst hw')
        refine HS.mono ?_
        rintro e W2 ⟨rfl, X2, hr, G2⟩
        clear HS v0
        go_wp2_with (refine wpList_store_run rfl 39 _ _ rfl rfl rfl hr ?_)
        go_roundw
        case rel =>
          rw [he] at G2
          refine ⟨rfl, .inr (.inl ⟨?_, 0, G2⟩)⟩
          have : ((k : Int) + 1) = (el.length : Int) := by omega
          first | (rw [this]; go_num) | go_num
        case measure => simp [intOf]; omega
    · have v0 : wr.cell? ⟨t, 0, none⟩ = some (.int .i64 1) := cell_of_block G.hT 0
      have hk3 : (el.length : Int) + 1 < 3000 := by omega
      have HS := HFR.out wr t kd G
      clear G HST HSL HFR
      go_wp2_with (go_at_call 8; refine (hnum _ _).mono ?_; rintro e w' ⟨rfl, hw'⟩; replace hw' := hw'.symm; subst hw')
      refine HS.mono ?_
      rintro e W2 ⟨rfl, X2, hr, F2⟩
      clear HS v0
      go_wp2_with (refine wpList_store_run rfl 39 _ _ rfl rfl rfl hr ?_)
      go_roundw
      case rel => exact ⟨rfl, .inr (.inr ⟨by go_num, F2⟩)⟩
      case measure => simp [intOf]; omega
    · have v0 : wr.cell? ⟨t, 0, none⟩ = some (.int .i64 4) := cell_of_block F.hT 0
      have hgt : (el.length : Int) > 0 := by omega
      clear HST HSL HFR
      go_wp2_with (go_at_call 8; refine (hnum _ _).mono ?_; rintro e w' ⟨rfl, hw'⟩; replace hw' := hw'.symm; subst hw')
      have HC := F.clock
      have HC' : Hid (Calls _ _ _ _ _) := HC
      clear HC F
      go_wp2_with fail
      refine HC'.out.mono ?_
      rintro e Wc ⟨rfl, Fc⟩
      clear HC'
      have u0 : Wc.cell? ⟨t, 0, none⟩ = some (.int .i64 4) := cell_of_block Fc.hT 0
      have u5 : Wc.cell? ⟨t, 5, none⟩ = some (.int .u64 1) := cell_of_block Fc.hT 5
      have HW := Fc.words cN hl
      clear Fc
      go_wp2_with (go_at_call 8; refine (hnum _ _).mono ?_; rintro e w' ⟨rfl, hw'⟩; replace hw' := hw'.symm; subst hw')
      refine HW.mono ?_
      rintro e Wd ⟨rfl, HS⟩
      clear HW u0 u5
      go_wp2_with fail
      refine HS.out.mono ?_
      rintro e We ⟨rfl, ke⟩
      clear HS
      go_wp2_with fail
      go_ret
      exact ⟨rfl, ke⟩
end Go.Proofs.YtmhinalgjfiliaaDoor
