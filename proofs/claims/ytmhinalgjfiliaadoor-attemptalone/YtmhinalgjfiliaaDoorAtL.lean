
/-
  The walk of the statements' small example. No statement of the seat is proved here.
-/
import Derived.Test.YtmhinalgjfiliaaDoorAtK
namespace Go.Proofs.YtmhinalgjfiliaaDoor
open Go.RowKit Go.Shelf

/-- A row and a clock, made anew. -/
theorem sh_new {w W1 W2 : World} {ws : List Int} {n x : Int} {rb rc p b c : Nat} {st : Int} (r : C.RowAt W1 59 34 rb rc ws n) (cl : C.ClkAt W2 p b c x st) (k : Keeps (fun _ => False) W1 W2) (k0 : Keeps (fun _ => False) w W1) (h1 : W1.heap.size ≤ p) (h2 : W1.heap.size ≤ b) (h3 : W1.heap.size ≤ c) (g1 : w.heap.size ≤ rb) (g2 : w.heap.size ≤ rc) :
    ShAt W2 ⟨rb, rc, p, b, c⟩ ws x ∧ ∀ q, Sh.own ⟨rb, rc, p, b, c⟩ q → w.heap.size ≤ q := by
  have l1 := r.ltb
  have l2 := r.ltc
  have l0 := k0.size
  refine ⟨⟨⟨n, r.kept k (fun f => f) (fun f => f)⟩, ⟨st, cl⟩, fun q hq => ?_⟩, fun q hq => ?_⟩
  · rcases hq with rfl | rfl | rfl <;> exact ⟨by show _ ≠ rb; omega, by show _ ≠ rc; omega⟩
  · rcases hq with e | e | e | e | e
    · have e : q = rb := e
      omega
    · have e : q = rc := e
      omega
    · have e : q = p := e
      omega
    · have e : q = b := e
      omega
    · have e : q = c := e
      omega

/-- An attempt that is over, with a Turn's block beside it. -/
structure Fin7 (w W : World) (g : Nat) (cs : Array Value) (a : Nat) (R : Sh) (ws : List Int) (x : Int) : Prop where
  sh : ShAt W R ws x
  at_ : W.heap[a]? = some (.cells overV 80 (0, 0))
  hg : W.heap[g]? = some (.cells cs 39 (0, 0))
  na : ¬ R.own a
  ng : ¬ R.own g
  ne : a ≠ g
  ge : w.heap.size ≤ g
  new : ∀ q, R.own q → w.heap.size ≤ q
  kp : Keeps (fun _ => False) w W
section
variable {w W W' : World} {g : Nat} {cs : Array Value} {a : Nat} {R : Sh} {ws : List Int} {x : Int}
theorem Fin7.storeT (h : Fin7 w W g cs a R ws x) (hs : cs.size = 8) (o y k d z : Int) (ow : Bool) :
    ∃ X, (Instr.storeAt 39 (.pointer (some ⟨g, 0, none⟩)) (turnV o y k d z ow)).run Tryd.prog W = .ok () X ∧ Fin7 w X g (turnA o y k d z ow) a R ws x := by
  have hk := setRow_keeps' (w := W) (a := g) (turnA o y k d z ow)
  refine ⟨W.setRow g (turnA o y k d z ow), ?_, ⟨h.sh.kept hk (fun q hq e => h.ng (e ▸ hq)), hk.old h.at_ h.ne, setRow_heap W g cs (turnA o y k d z ow) 39 (0, 0) h.hg, h.na, h.ng, h.ne, h.ge, h.new, h.kp.step hk (fun i hi e => by have := h.ge; omega)⟩⟩
  show (Instr.storeAt 39 (.pointer (some ⟨g, 0, none⟩)) (.agg (turnA o y k d z ow))).run Tryd.prog W = _
  simp only [Instr.storeAt, Instr.sureAddr, Sem.run_bind, Sem.run_pure, Result.andThen_ok, run_storeVar_row W g 39 39 cs (turnA o y k d z ow) h.hg size_turn hs (turnA_one _ _ _ _ _ _)]
theorem Fin7.same (h : Fin7 w W g cs a R ws x) (s : ShAt W' R ws x) (k : Keeps R.own W W') : Fin7 w W' g cs a R ws x :=
  ⟨s, k.old h.at_ h.na, k.old h.hg h.ng, h.na, h.ng, h.ne, h.ge, h.new, h.kp.step k (fun i hi e => by have := h.new i e; omega)⟩
theorem Fin7.load (h : Fin7 w W g cs a R ws x) (d : Int) (hd : 0 ≤ d) : Calls Tryd.prog 21 #[.pointer (some ⟨R.rb, 0, none⟩), .int .u64 d] W fun e W' => e = .returned (.tuple #[.int .u64 (C.wordAt ws d), .int .i64 (C.errAt ws.length d)]) ∧ Fin7 w W' g cs a R ws x := by
  obtain ⟨n, r⟩ := h.sh.row
  exact (C.load_at _ _ ws n d W r hd).mono fun e W' ⟨h1, h2, h3⟩ => ⟨h1, h.same (h.sh.row' h2 h3) (h3.mono (fun _ _ e => e.elim .inl (fun e => .inr (.inl e))))⟩
theorem Fin7.clock (h : Fin7 w W g cs a R ws x) : Calls Tryd.prog 22 #[.pointer (some ⟨R.ck, 0, none⟩)] W fun e W' => e = .returned (.tuple #[.int .u64 x, .int .i64 0]) ∧ Fin7 w W' g cs a R ws x := by
  obtain ⟨st, c⟩ := h.sh.clk
  exact (C.cload_at _ _ _ _ _ W c).mono fun e W' ⟨h1, h2, h3⟩ => ⟨h1, h.same (h.sh.clk' h2 h3) (h3.mono (fun _ _ e => .inr (.inr e)))⟩
end

set_option maxRecDepth 100000 in
set_option maxHeartbeats 2000000 in
theorem known_any (w : World) (hz : Tz w) : Calls Tryd.prog 9 #[] w fun e w' => e = .returned (.bool true) ∧ Keeps (fun _ => False) w w' := by
  have h0 := hz.pos
  have HO : Hid (∀ t, Calls Tryd.prog 6 #[.slice (some ⟨w.heap.size, 0, none⟩) 3 3] (w.alloc (.cells #[.int .u64 5, .int .u64 6, .int .u64 7] t)) fun e W => e = .returned (.tuple #[.pointer (some ⟨w.heap.size + 2, 0, none⟩), .int .i64 0]) ∧ Hid (C.RowAt W 59 34 (w.heap.size + 2) (w.heap.size + 1) [5, 6, 7] 0 ∧ Keeps (fun _ => False) w W)) := fun t => by
    have := C.of_yes (some ⟨w.heap.size, 0, none⟩) 3 3 [5, 6, 7] (w.alloc (.cells #[.int .u64 5, .int .u64 6, .int .u64 7] t)) rfl (C.Reads.block (e := t) (MapKept.heap_alloc w _).1) (by omega) (by omega)
    rw [World.size_alloc] at this
    exact this.mono fun e W ⟨h1, h2, h3⟩ => ⟨h1, h2, (Keeps.al w _).trans h3⟩
  have HN : Hid (∀ W1, C.RowAt W1 59 34 (w.heap.size + 2) (w.heap.size + 1) [5, 6, 7] 0 ∧ Keeps (fun _ => False) w W1 → Calls Tryd.prog 7 #[] W1 fun e W => ∃ ck, e = .returned (.pointer (some ⟨ck, 0, none⟩)) ∧ Hid (∃ cb cc, ShAt W ⟨w.heap.size + 2, w.heap.size + 1, ck, cb, cc⟩ [5, 6, 7] 0 ∧ (∀ q, Sh.own ⟨w.heap.size + 2, w.heap.size + 1, ck, cb, cc⟩ q → w.heap.size ≤ q) ∧ Keeps (fun _ => False) w W)) := fun W1 ⟨r, k0⟩ =>
    (C.new_any W1).mono fun e W ⟨p, b, c, h1, h2, h3, h4, h5, h6⟩ => by
      obtain ⟨q1, q2⟩ := sh_new (w := w) r h2 h3 k0 h4 h5 h6 (by omega) (by omega)
      exact ⟨p, h1, b, c, q1, q2, k0.trans h3⟩
  go_enter Tryd.func9, Tryd.ntmps9
  go_wp2_with fail
  refine (HO.out _).mono ?_
  rintro e W1 ⟨rfl, h1⟩
  have HN1 := HN.out W1 h1.out
  clear HO HN h1
  go_wp2_with fail
  refine HN1.mono ?_
  rintro e W2 ⟨ck, rfl, h2⟩
  clear HN1
  obtain ⟨cb, cc, s2, n2, k2⟩ := h2.out
  clear h2
  obtain ⟨R, eR⟩ : ∃ R : Sh, R = ⟨w.heap.size + 2, w.heap.size + 1, ck, cb, cc⟩ := ⟨_, rfl⟩
  rw [← eR] at s2 n2
  have er : w.heap.size + 2 = R.rb := by rw [eR]
  have ec : ck = R.ck := by rw [eR]
  have HB : Hid (Calls Tryd.prog 10 #[.pointer (some ⟨w.heap.size + 2, 0, none⟩), .pointer (some ⟨ck, 0, none⟩)] W2 fun e W => ∃ a, e = .returned (.tuple #[.pointer (some ⟨a, 0, none⟩), turnV 6 0 1 0 0 false, .int .i64 0]) ∧ Hid (∃ rr dr Or Od, ∀ t, Kn w (W.alloc (.cells (turnA 6 0 1 0 0 false) t)) W.heap.size (turnA 6 0 1 0 0 false) a R rr dr [] Or Od (sd0 0) [5, 6, 7] 0 ∨ t ≠ 39)) := by
    rw [er, ec]
    refine (begin_even R [5, 6, 7] 0 W2 s2 (by decide) (by have := k2.size; omega)).mono fun e W ⟨a, rr, dr, Or, Od, h1, h2, h3, h4, h5⟩ => ⟨a, h1, rr, dr, Or, Od, fun t => ?_⟩
    by_cases ht : t = 39
    · subst ht
      have hz2 := k2.size
      have hds : ∀ q, AOwn a Or Od q → ¬ R.own q := fun q hq hR => by have := h3 q hq; have := s2.lt hR; omega
      have ho : On W a R rr dr [] Or Od (sd0 0) [5, 6, 7] 0 := ⟨h2, h4, hds⟩
      have kw : Keeps (fun _ => False) w W := k2.step h5 (fun i hi e => by have := n2 i e; omega)
      exact .inl ⟨ho.al _, hz.keeps (kw.trans (Keeps.al W _)) (fun f => f), fun q hq => hq.elim (fun e => by have := h3 q e; omega) (n2 q), h0, kw.trans (Keeps.al W _), alloc_block W _, ho.far (Nat.le_refl _), kw.size⟩
    · exact .inr ht
  have hnum := fun n W => num_any n W
  have HR : Hid (w.heap.size + 2 = R.rb ∧ ck = R.ck) := ⟨er, ec⟩
  clear s2 n2 k2 hz er ec eR
  unfold turnV at HB
  go_wp2_with (go_at_call 8; refine (hnum _ _).mono ?_; rintro e w' ⟨rfl, hw'⟩; replace hw' := hw'.symm; subst hw')
  refine HB.out.mono ?_
  rintro e W3 ⟨a, rfl, h3⟩
  clear HB
  obtain ⟨rr, dr, Or, Od, h3'⟩ := h3.out
  clear h3
  have K3 := (h3' 39).resolve_right (fun f => f rfl)
  clear h3'
  have HG : Hid (Calls Tryd.prog 15 #[.pointer (some ⟨a, 0, none⟩), .int .u64 1] (W3.alloc (.cells (turnA 6 0 1 0 0 false) 39)) fun e W => e = .returned (.tuple #[turnV 1 0 0 0 0 false, .int .i64 0]) ∧ Hid (Kn w W W3.heap.size (turnA 6 0 1 0 0 false) a R rr dr [] Or Od ((sd0 0).to 3 0 1 6 0 0) [5, 6, 7] 0)) :=
    (get_fetch a rr dr R [] Or Od (sd0 0) [5, 6, 7] 0 1 _ K3.on K3.tz rfl (by decide) (by decide) (by decide) (by decide)).mono fun e W ⟨h1, h2, h3⟩ => ⟨h1, K3.same h2 h3⟩
  generalize hgT : W3.heap.size = gT at *
  have hgT' : gT = W3.heap.size := hgT.symm
  clear hgT K3
  subst hgT'
  unfold turnA turnV at HG
  go_wp2_with (go_at_call 8; refine (hnum _ _).mono ?_; rintro e w' ⟨rfl, hw'⟩; replace hw' := hw'.symm; subst hw')
  refine HG.out.mono ?_
  rintro e W4 ⟨rfl, h4⟩
  clear HG
  generalize W3.heap.size = g at *
  clear W3
  have K4 := h4.out
  clear h4
  have HS : Hid (Calls Tryd.prog 16 #[.pointer (some ⟨a, 0, none⟩)] W4 fun e W => e = .returned (.tuple #[turnV 2 6 2 1 6 false, .int .i64 0]) ∧ ∃ Or', Kn w W g (turnA 6 0 1 0 0 false) a R rr dr [] Or' Od (((sd0 0).reads [(1, 6)]).to 1 0 0 0 0 0) [5, 6, 7] 0) :=
    (st_look (S := (sd0 0).to 3 0 1 6 0 0) K4.on rfl (by decide)).mono fun e W ⟨h1, Or', h2, h3, h5⟩ => ⟨h1, Or', K4.next h2 (fun q hq => by
      rcases hq with (hq | hq | hq) | hq
      · exact .inl (.inl (.inl hq))
      · exact (h3 q hq).imp (fun e => .inl (.inr (.inl e))) id
      · exact .inl (.inl (.inr (.inr hq)))
      · exact .inl (.inr hq)) h5⟩
  clear K4
  unfold turnV at HS
  go_wp2_with fail
  refine HS.out.mono ?_
  rintro e W5 ⟨rfl, Or5, K5⟩
  clear HS
  obtain ⟨X5, hr5, K5', t0, t1, t5⟩ := K5.storeT rfl 2 6 2 1 6 false
  clear K5
  have HP : Hid (Calls Tryd.prog 11 #[.pointer (some ⟨a, 0, none⟩), .int .u64 1, .int .u64 9] X5 fun e W => e = .returned (.tuple #[turnV 3 0 3 1 9 false, .int .i64 0]) ∧ ∃ Od', Kn w W g (turnA 2 6 2 1 6 false) a R rr dr ([] ++ [(1, 9)]) Or5 Od' ((((sd0 0).reads [(1, 6)]).to 1 0 0 0 0 0).writes [(1, 9)]) [5, 6, 7] 0) :=
    (put_ok a rr dr R [] Or5 Od _ [5, 6, 7] 0 1 9 X5 K5'.on K5'.tz rfl (by decide) (fun f => absurd f.2 (by decide)) (by decide)).mono fun e W ⟨h1, Od', h2, h3, h5⟩ => ⟨h1, Od', K5'.next h2 (fun q hq => by
      rcases hq with (hq | hq | hq) | hq
      · exact .inl (.inl (.inl hq))
      · exact .inl (.inl (.inr (.inl hq)))
      · exact (h3 q hq).imp (fun e => .inl (.inr (.inr e))) id
      · exact .inl (.inr hq)) h5⟩
  clear K5'
  unfold turnV at HP hr5
  go_wp2_with (first
    | (refine wpList_store_run rfl 39 _ _ rfl rfl rfl hr5 ?_)
    | (go_at_call 8; refine (hnum _ _).mono ?_; rintro e w' ⟨rfl, hw'⟩; replace hw' := hw'.symm; subst hw'))
  refine HP.out.mono ?_
  rintro e W6 ⟨rfl, Od6, K6⟩
  clear HP hr5 t0 t1 t5
  have HE : Hid (Calls Tryd.prog 20 #[.pointer (some ⟨a, 0, none⟩)] W6 fun e W => e = .returned (.tuple #[turnV 1 0 5 0 0 false, .int .i64 0]) ∧ Kn w W g (turnA 2 6 2 1 6 false) a R rr dr ([] ++ [(1, 9)]) Or5 Od6 ((((sd0 0).reads [(1, 6)]).writes [(1, 9)]).to 8 0 0 0 0 0) [5, 6, 7] 1) :=
    (end_lock a rr dr R _ Or5 Od6 _ [5, 6, 7] 0 W6 K6.on K6.tz rfl (by simp [Sd.writes]) (by decide) (by decide) (by decide)).mono fun e W ⟨h1, h2, h3⟩ => ⟨h1, K6.same h2 h3⟩
  clear K6
  unfold turnV at HE
  go_wp2_with fail
  refine HE.out.mono ?_
  rintro e W7 ⟨rfl, K7⟩
  clear HE
  have HS : Hid (Calls Tryd.prog 16 #[.pointer (some ⟨a, 0, none⟩)] W7 fun e W => e = .returned (.tuple #[turnV 1 0 0 0 0 false, .int .i64 0]) ∧ Kn w W g (turnA 2 6 2 1 6 false) a R rr dr ([] ++ [(1, 9)]) Or5 Od6 ((((sd0 0).reads [(1, 6)]).writes [(1, 9)]).to 9 0 0 0 0 0) [5, 9, 7] 1) :=
    (st_store_last K7.on rfl 0 1 9 rfl rfl (by decide) rfl (by decide)).mono fun e W ⟨h1, h2, h3⟩ => ⟨h1, K7.same h2 h3⟩
  clear K7
  unfold turnV at HS
  go_wp2_with fail
  refine HS.out.mono ?_
  rintro e W8 ⟨rfl, K8⟩
  clear HS
  have HS : Hid (Calls Tryd.prog 16 #[.pointer (some ⟨a, 0, none⟩)] W8 fun e W => e = .returned (.tuple #[turnV 4 0 6 0 1 false, .int .i64 0]) ∧ Fin7 w W g (turnA 2 6 2 1 6 false) a R [5, 9, 7] 2) :=
    (st_free K8.on rfl (by decide) (by decide) (by decide)).mono fun e W ⟨h1, h2, h3, h5⟩ => ⟨h1, ⟨h3, h2, h5.old K8.hg K8.nf, K8.on.dis a (.inl rfl), fun e => K8.nf (.inr e), fun e => K8.nf (.inl (.inl e.symm)), K8.ge, fun q hq => K8.new q (.inr hq), K8.kp.step h5 (fun i hi e => by have := K8.new i e; omega)⟩⟩
  clear K8
  unfold turnV at HS
  go_wp2_with fail
  refine HS.out.mono ?_
  rintro e W9 ⟨rfl, K9⟩
  clear HS
  obtain ⟨X9, hr9, K9'⟩ := K9.storeT rfl 4 0 6 0 1 false
  clear K9
  have HL : Hid (Calls Tryd.prog 21 #[.pointer (some ⟨w.heap.size + 2, 0, none⟩), .int .u64 1] X9 fun e W => e = .returned (.tuple #[.int .u64 9, .int .i64 0]) ∧ Fin7 w W g (turnA 4 0 6 0 1 false) a R [5, 9, 7] 2) := by
    rw [HR.out.1]
    exact K9'.load 1 (by decide)
  clear K9'
  unfold turnV at hr9
  go_wp2_with (refine wpList_store_run rfl 39 _ _ rfl rfl rfl hr9 ?_)
  refine HL.out.mono ?_
  rintro e W10 ⟨rfl, K10⟩
  clear HL hr9
  have HC : Hid (Calls Tryd.prog 22 #[.pointer (some ⟨ck, 0, none⟩)] W10 fun e W => e = .returned (.tuple #[.int .u64 2, .int .i64 0]) ∧ Fin7 w W g (turnA 4 0 6 0 1 false) a R [5, 9, 7] 2) := by
    rw [HR.out.2]
    exact K10.clock
  clear K10 HR
  go_wp2_with fail
  refine HC.out.mono ?_
  rintro e W11 ⟨rfl, K11⟩
  clear HC
  have t0 : W11.cell? ⟨g, 0, none⟩ = some (.int .i64 4) := cell_of_block K11.hg 0
  have t5 : W11.cell? ⟨g, 5, none⟩ = some (.int .u64 1) := cell_of_block K11.hg 5
  have HPh := phase_at a 10 W11 (cell_of_block K11.at_ 5) (by decide)
  have kend : Hid (Keeps (fun _ => False) w W11) := K11.kp
  clear K11
  go_wp2_with (first
    | (go_at_call 8; refine (hnum _ _).mono ?_; rintro e w' ⟨rfl, hw'⟩; replace hw' := hw'.symm; subst hw')
    | (go_at_call 17; refine HPh.mono ?_; rintro e w' ⟨rfl, hw'⟩; replace hw' := hw'.symm; subst hw'))
  go_ret
  exact ⟨rfl, kend.out⟩
end Go.Proofs.YtmhinalgjfiliaaDoor
