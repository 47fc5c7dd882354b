
/-
  An attempt that is alone: its lists are made, a Put. No statement of the seat is proved here.
-/
import Derived.Test.YtmhinalgjfiliaaDoorGotM
import Derived.Test.YtmhinalgjfiliaaDoorOpenM
namespace Go.Proofs.YtmhinalgjfiliaaDoor
open Go.RowKit Go.Shelf

theorem info_w : (Tryd.prog.info? 34).map (fun i => (i.zero, i.size, i.bytes)) = some (some (.int .u64 0), 1, 8) := by kernel_rfl
theorem info_b : (Tryd.prog.info? 4).map (fun i => (i.zero, i.size, i.bytes)) = some (some (.bool false), 1, 1) := by kernel_rfl
set_option maxRecDepth 100000 in
/-- append([]uint64(nil), v...). -/
theorem app_words {w : World} {v : Value} {xs : List Int} (h : Reads w v xs) (h1 : 1 ≤ xs.length) (h2 : xs.length ≤ 65536) :
    ∃ cap w', Hid ((Builtin.append_ #[22, 22] 22 #[.slice none 0 0, v]).run Tryd.prog w = .ok (.slice (some ⟨w.heap.size, 0, none⟩) xs.length cap) w') ∧ (∃ c : Array Value, w'.heap[w.heap.size]? = some (.cells c 34 (0, 0)) ∧ ∀ j, j < xs.length → c[j]? = some (.int .u64 (xs[j]?.getD 0))) ∧ Keeps (fun _ => False) w w' := by
  obtain ⟨i0, hi, hz0, hz1, hz2⟩ := info_parts info_w
  obtain ⟨_, a, c, rfl, hc⟩ := h
  obtain ⟨g, off, rfl, _⟩ := hc 0 (by omega)
  have hnews : ∀ j u, (wordsV xs)[j]? = some u → w.cell? ((⟨g, off, none⟩ : Addr).add j) = some u := fun j u hu => by
    have hj : j < xs.length := by
      have := (List.getElem?_eq_some_iff.1 hu).1
      simpa [wordsV] using this
    obtain ⟨g', off', e, hcell⟩ := hc j hj
    injection e with e
    injection e with e1 e2
    subst e1 e2
    rw [C.addr_add, hcell, ← hu]
    simp [wordsV, oat, hj]
  obtain ⟨g2, cap, w', q1, q2, q3⟩ := run_append_row (P := Tryd.prog) w 22 22 34 i0 _ 1 8 Tryd.underlying22 hi hz0 hz1 hz2 rfl (row_nil w 34 1) ⟨g, off, none⟩ xs.length c (by omega) (wordsV xs) (by simp [wordsV]) hnews (fun u hu => by
    simp [wordsV] at hu
    obtain ⟨y, _, rfl⟩ := hu
    rfl) (by simp [maxLen]; omega) (by omega)
  rw [Nat.zero_add, List.nil_append] at q2
  rw [Nat.zero_add] at q1
  rcases q3 with ⟨rfl, k⟩ | ⟨f, _⟩
  · refine ⟨cap, w', q1, ?_, k⟩
    obtain ⟨cc, hcc⟩ := q2.kind rfl
    refine ⟨cc, hcc, fun j hj => ?_⟩
    obtain ⟨g3, cap3, e3, _, _, hcell, _⟩ := q2.at (by omega)
    injection e3 with e3 _ _
    injection e3 with e3
    injection e3 with e3 _ _
    subst e3
    have := hcell j (by omega)
    rw [cell_of_block hcc j] at this
    rw [this]
    simp [wordsV, hj]
  · simp [Value.ownBlock] at f

/-- make([]bool, n). -/
theorem run_bools (w : World) (n : Nat) (h1 : n ≤ 65536) :
    ∃ x : Array Value, (Instr.makeSlice 42 (.int .i64 (n : Int)) (.int .i64 (n : Int))).run Tryd.prog w = .ok (.slice (some ⟨w.heap.size, 0, none⟩) n n) (w.alloc (.cells x 4)) ∧ ∀ j, j < n → x[j]? = some (.bool false) := by
  obtain ⟨i0, hi, hz0, hz1, hz2⟩ := info_parts info_b
  have h := run_make (P := Tryd.prog) w 42 4 i0 (.bool false) Tryd.underlying42 hi hz0 .i64 .i64 (n : Int) (n : Int) (by omega) (Int.le_refl _) (by rw [hz2]; omega) (by omega)
  rw [hz1, Nat.mul_one, Int.toNat_natCast] at h
  refine ⟨_, h, fun j hj => ?_⟩
  simp [madeCells, Value.cells, hj, Nat.mod_one]

section
variable {w W : World} {g h : Nat} {a rr dr : Nat} {R : Sh} {L : List (Int × Int)} {Or Od : Nat → Prop} {rd wr : List (Int × Int)} {ws : List Int}
/-- The lists are made. -/
theorem al_init {W5 : World} (ho : On W a R rr dr L Or Od (sdA rd []) ws 0) (hz : Tz w) (h0 : 0 < w.heap.size) (new : ∀ q, Both a Or Od R q → w.heap.size ≤ q) (kp : Keeps (fun _ => False) w W) (k : Keeps (fun _ => False) W W5)
    (hN : ∃ c : Array Value, W5.heap[W.heap.size]? = some (.cells c 34 (0, 0)) ∧ ∀ j, j < ws.length → c[j]? = some (.int .u64 (ws[j]?.getD 0))) (x : Array Value) (hx : ∀ j, j < ws.length → x[j]? = some (.bool false)) :
    Al w (W5.alloc (.cells x 4)) W.heap.size W5.heap.size a R rr dr L Or Od (sdA rd []) ws := by
  obtain ⟨c, hc, hcj⟩ := hN
  have l1 := lt_of_block hc
  have hs := kp.size
  have ho' := ho.up k
  have kk := (kp.trans k).trans (Keeps.al W5 (.cells x 4))
  refine ⟨ho'.al _, hz.keeps kk (fun f => f), new, h0, kk, ⟨⟨c, alloc_old hc _, ?_⟩, ⟨x, alloc_block W5 _, fun j hj => ?_⟩⟩, ho.far (Nat.le_refl _), ho'.far (Nat.le_refl _), by omega, hs, by omega⟩
  · show ∀ j, j < ws.length → c[j]? = some (.int .u64 ((nowE ws [])[j]?.getD 0))
    rw [nowE_nil]
    exact hcj
  · show x[j]? = some (.bool ((hasE ws.length [])[j]?.getD false))
    rw [hasE_nil, hx j hj]
    simp [hj]

/-- Behind a Put, ahead of the lists' own change. -/
structure Mi (w W : World) (g h : Nat) (a : Nat) (R : Sh) (rr dr : Nat) (L : List (Int × Int)) (Or Od : Nat → Prop) (S : Sd) (ws : List Int) (wr : List (Int × Int)) : Prop where
  on : On W a R rr dr L Or Od S ws 0
  tz : Tz W
  new : ∀ q, Both a Or Od R q → w.heap.size ≤ q
  pos : 0 < w.heap.size
  kp : Keeps (fun _ => False) w W
  nw : Nw W g h ws.length (nowE ws wr) (hasE ws.length wr)
  ng : ¬ Both a Or Od R g
  nh : ¬ Both a Or Od R h
  ne : g ≠ h
  gg : w.heap.size ≤ g
  gh : w.heap.size ≤ h
theorem Mi.up {S : Sd} {W' : World} (q : Mi w W g h a R rr dr L Or Od S ws wr) (k : Keeps (fun _ => False) W W') : Mi w W' g h a R rr dr L Or Od S ws wr :=
  ⟨q.on.up k, q.tz.keeps k (fun f => f), q.new, q.pos, q.kp.trans k, q.nw.kept k (fun f => f) (fun f => f), q.ng, q.nh, q.ne, q.gg, q.gh⟩
theorem Al.put (q : Al w W g h a R rr dr L Or Od (sdA rd wr) ws) (d : Nat) (y : Int) (hd : d < ws.length) (hL : L.length < 1024) :
    Calls Tryd.prog 11 #[.pointer (some ⟨a, 0, none⟩), .int .u64 (d : Int), .int .u64 y] W fun e W' => e = .returned (.tuple #[turnV 3 0 3 (d : Int) y false, .int .i64 0]) ∧ (∀ k o, W.heap[k]? = some o → ¬ Both a Or Od R k → W'.heap[k]? = some o) ∧ ∃ Od', Mi w W' g h a R rr dr (L ++ [((d : Int), y)]) Or Od' (sdA rd (putE wr (d : Int) y)) ws wr := by
  have hlen : (redoE L).length < 1024 := Nat.lt_of_le_of_lt (redoE_length L) hL
  refine (put_ok a rr dr R L Or Od (sdA rd wr) ws 0 (d : Int) y W q.on q.tz rfl (by omega) (fun f => absurd f.2 (by omega)) (by omega)).mono fun e W' ⟨h1, Od', h2, h3, h4⟩ => ⟨h1, fun k o hk hn => h4.old hk hn, Od', ?_⟩
  have h0 := q.pos
  have hz := q.kp.size
  obtain ⟨l1, l2⟩ := q.nw.lt
  have hb : ∀ i, Both a Or Od' R i → Both a Or Od R i ∨ W.heap.size ≤ i := fun i hi => by
    rcases hi with (hi | hi | hi) | hi
    · exact .inl (.inl (.inl hi))
    · exact .inl (.inl (.inr (.inl hi)))
    · exact (h3 i hi).imp (fun e => .inl (.inr (.inr e))) id
    · exact .inl (.inr hi)
  refine ⟨h2, q.tz.keeps h4 (fun e => by have := q.new 0 e; omega), fun i hi => ?_, q.pos, q.kp.step h4 (fun i hi e => by have := q.new i e; omega), q.nw.kept h4 q.ng q.nh, fun e => ?_, fun e => ?_, q.ne, q.gg, q.gh⟩
  · rcases hb i hi with e | e
    · exact q.new i e
    · omega
  · rcases hb g e with e | e
    · exact q.ng e
    · omega
  · rcases hb h e with e | e
    · exact q.nh e
    · omega
/-- The lists follow. -/
theorem Mi.done {d : Nat} {y : Int} (q : Mi w W g h a R rr dr L Or Od (sdA rd (putE wr (d : Int) y)) ws wr) (hn : (wr.map Prod.fst).Nodup) (hd : d < ws.length) :
    Al w ((W.setCell ⟨g, d, none⟩ (.int .u64 y)).setCell ⟨h, d, none⟩ (.bool true)) g h a R rr dr L Or Od (sdA rd (putE wr (d : Int) y)) ws := by
  have k1 : Keeps (fun i => i = g ∨ i = h) W ((W.setCell ⟨g, d, none⟩ (.int .u64 y)).setCell ⟨h, d, none⟩ (.bool true)) := ((Keeps.refl (fun i => i = g ∨ i = h) W).setCell (p := ⟨g, d, none⟩) (.inr (.inl rfl)) _).setCell (p := ⟨h, d, none⟩) (.inr (.inr rfl)) _
  have h0 := q.pos
  have gg := q.gg
  have gh := q.gh
  refine ⟨q.on.kept k1 (fun i hi e => e.elim (fun e => q.ng (e ▸ hi)) (fun e => q.nh (e ▸ hi))), q.tz.keeps k1 (fun e => by omega), q.new, q.pos, q.kp.step k1 (fun i hi e => by omega), ?_, q.ng, q.nh, q.ne, q.gg, q.gh⟩
  obtain ⟨⟨c, h1, h2⟩, ⟨c', h3, h4⟩⟩ := q.nw
  refine ⟨⟨c.setIfInBounds d (.int .u64 y), block_other (block_set h1 d _) q.ne _ _, fun j hj => ?_⟩, ⟨c'.setIfInBounds d (.bool true), block_set (block_other h3 (Ne.symm q.ne) _ _) d _, fun j hj => ?_⟩⟩
  · show _ = some (Value.int .u64 ((nowE ws (putE wr (d : Int) y))[j]?.getD 0))
    rw [nowE_put ws hn (d : Int) y (by omega), Int.toNat_natCast, List.getElem?_set, Array.getElem?_setIfInBounds]
    have hs : j < c.size := (Array.getElem?_eq_some_iff.1 (h2 j hj)).1
    by_cases e : d = j
    · subst e
      simp [hs, nowE_len, hd]
    · rw [if_neg e, if_neg e]
      exact h2 j hj
  · show _ = some (Value.bool ((hasE ws.length (putE wr (d : Int) y))[j]?.getD false))
    rw [hasE_put _ wr (d : Int) y (by omega), Int.toNat_natCast, List.getElem?_set, Array.getElem?_setIfInBounds]
    have hs : j < c'.size := (Array.getElem?_eq_some_iff.1 (h4 j hj)).1
    by_cases e : d = j
    · subst e
      simp [hs, hasE_len, hd]
    · rw [if_neg e, if_neg e]
      exact h4 j hj
end
end Go.Proofs.YtmhinalgjfiliaaDoor
