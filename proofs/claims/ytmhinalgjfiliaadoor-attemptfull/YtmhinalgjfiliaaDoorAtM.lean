
/-
  Two attempts over one row and one clock. No statement of the seat is proved here.
-/
import Derived.Test.YtmhinalgjfiliaaDoorAtL
namespace Go.Proofs.YtmhinalgjfiliaaDoor
open Go.RowKit Go.Shelf

structure Du (w W : World) (R : Sh) (ws : List Int) (x : Int) (a ra da : Nat) (La : List (Int × Int)) (Oa Pa : Nat → Prop) (Sa : Sd) (b rb db : Nat) (Lb : List (Int × Int)) (Ob Pb : Nat → Prop) (Sb : Sd) : Prop where
  sh : ShAt W R ws x
  A : AttX W a R ra da La Oa Pa Sa
  B : AttX W b R rb db Lb Ob Pb Sb
  dA : ∀ q, AOwn a Oa Pa q → ¬ R.own q
  dB : ∀ q, AOwn b Ob Pb q → ¬ R.own q
  ap : ∀ q, AOwn a Oa Pa q → ¬ AOwn b Ob Pb q
  nA : ∀ q, AOwn a Oa Pa q → w.heap.size ≤ q
  nB : ∀ q, AOwn b Ob Pb q → w.heap.size ≤ q
  nR : ∀ q, R.own q → w.heap.size ≤ q
  tz : Tz W
  pos : 0 < w.heap.size
  kp : Keeps (fun _ => False) w W

section
variable {w W W' : World} {R : Sh} {ws ws' : List Int} {x x' : Int} {a ra da : Nat} {La La' : List (Int × Int)} {Oa Pa Oa' Pa' : Nat → Prop} {Sa Sa' : Sd} {b rb db : Nat} {Lb : List (Int × Int)} {Ob Pb : Nat → Prop} {Sb : Sd}
theorem Du.swap (h : Du w W R ws x a ra da La Oa Pa Sa b rb db Lb Ob Pb Sb) : Du w W R ws x b rb db Lb Ob Pb Sb a ra da La Oa Pa Sa :=
  ⟨h.sh, h.B, h.A, h.dB, h.dA, fun q hq e => h.ap q e hq, h.nB, h.nA, h.nR, h.tz, h.pos, h.kp⟩
theorem Du.on (h : Du w W R ws x a ra da La Oa Pa Sa b rb db Lb Ob Pb Sb) : On W a R ra da La Oa Pa Sa ws x := ⟨h.A, h.sh, h.dA⟩
theorem Du.next (h : Du w W R ws x a ra da La Oa Pa Sa b rb db Lb Ob Pb Sb) (on' : On W' a R ra da La' Oa' Pa' Sa' ws' x') (n : ∀ q, AOwn a Oa' Pa' q → AOwn a Oa Pa q ∨ W.heap.size ≤ q) (k : Keeps (Both a Oa Pa R) W W') :
    Du w W' R ws' x' a ra da La' Oa' Pa' Sa' b rb db Lb Ob Pb Sb := by
  have hz := h.kp.size
  have h0 := h.pos
  have hB : ∀ q, AOwn b Ob Pb q → ¬ Both a Oa Pa R q := fun q hq e => e.elim (fun e => h.ap q e hq) (h.dB q hq)
  refine ⟨on'.sh, on'.at_, h.B.kept k hB, on'.dis, h.dB, fun q hq hb => ?_, fun q hq => ?_, h.nB, h.nR, h.tz.keeps k (fun e => ?_), h.pos, h.kp.step k (fun i hi e => ?_)⟩
  · rcases n q hq with e | e
    · exact h.ap q e hb
    · have := h.B.lt hb; omega
  · rcases n q hq with e | e
    · exact h.nA q e
    · omega
  · have := e.elim (h.nA 0) (h.nR 0); omega
  · have := e.elim (h.nA i) (h.nR i); omega
theorem Du.same (h : Du w W R ws x a ra da La Oa Pa Sa b rb db Lb Ob Pb Sb) (on' : On W' a R ra da La Oa Pa Sa' ws' x') (k : Keeps (Both a Oa Pa R) W W') : Du w W' R ws' x' a ra da La Oa Pa Sa' b rb db Lb Ob Pb Sb := h.next on' (fun _ hq => .inl hq) k
theorem Du.up (h : Du w W R ws x a ra da La Oa Pa Sa b rb db Lb Ob Pb Sb) (k : Keeps (fun _ => False) W W') : Du w W' R ws x a ra da La Oa Pa Sa b rb db Lb Ob Pb Sb := h.same (h.on.up k) k.up
theorem Du.al (h : Du w W R ws x a ra da La Oa Pa Sa b rb db Lb Ob Pb Sb) (o : Obj) : Du w (W.alloc o) R ws x a ra da La Oa Pa Sa b rb db Lb Ob Pb Sb := h.up (Keeps.al W o)
end

/-- A second attempt begins. -/
theorem du_mk {w W4 W5 : World} {R : Sh} {ws : List Int} {x : Int} {a ra da b rb db : Nat} {La Lb : List (Int × Int)} {Oa Pa Ob Pb : Nat → Prop} {Sa Sb : Sd} (ha : On W4 a R ra da La Oa Pa Sa ws x) (na : ∀ q, AOwn a Oa Pa q → w.heap.size ≤ q) (nR : ∀ q, R.own q → w.heap.size ≤ q) (k0 : Keeps (fun _ => False) w W4) (hz : Tz w) (pos : 0 < w.heap.size)
    (hb : AttX W5 b R rb db Lb Ob Pb Sb) (nb : ∀ q, AOwn b Ob Pb q → W4.heap.size ≤ q) (sh : ShAt W5 R ws x) (k : Keeps R.own W4 W5) : Du w W5 R ws x a ra da La Oa Pa Sa b rb db Lb Ob Pb Sb := by
  have hs := k0.size
  have kp : Keeps (fun _ => False) w W5 := k0.step k (fun i hi e => by have := nR i e; omega)
  exact ⟨sh, ha.at_.kept k (fun q hq e => ha.dis q hq e), hb, ha.dis, fun q hq e => by have := nb q hq; have := ha.sh.lt e; omega, fun q hq e => by have := nb q e; have := ha.at_.lt hq; omega, na, fun q hq => by have := nb q hq; omega, nR, hz.keeps kp (fun f => f), pos, kp⟩

/-- Puts at 0, 1, and so on. -/
def wrN (k : Nat) : List (Int × Int) := (List.range k).map fun (i : Nat) => ((i : Int), (1 : Int))
theorem wrN_len (k : Nat) : (wrN k).length = k := by simp [wrN]
theorem wrN_keys (k : Nat) (d : Int) : d ∈ (wrN k).map Prod.fst ↔ 0 ≤ d ∧ d < (k : Int) := by
  simp only [wrN, List.map_map, List.mem_map, List.mem_range, Function.comp]
  constructor
  · rintro ⟨i, hi, rfl⟩; omega
  · rintro ⟨h0, h1⟩; exact ⟨d.toNat, by omega, by omega⟩
theorem wrN_in (k : Nat) (d : Int) (h0 : 0 ≤ d) (h1 : d < (k : Int)) : idxE (wrN k) d < (wrN k).length := idxE_mem.2 ((wrN_keys k d).2 ⟨h0, h1⟩)
theorem wrN_out (k : Nat) (d : Int) (h1 : (k : Int) ≤ d) : ¬ idxE (wrN k) d < (wrN k).length := fun h => by have := (wrN_keys k d).1 (idxE_mem.1 h); omega
theorem wrN_succ (k : Nat) : wrN (k + 1) = wrN k ++ [((k : Int), 1)] := by simp [wrN, List.range_succ]
theorem wrN_put (k : Nat) : putE (wrN k) (k : Int) 1 = wrN (k + 1) := by
  rw [wrN_succ]
  exact if_neg (wrN_out k k (Int.le_refl _))
theorem redoE_wrN (k : Nat) : redoE (wrN k) = wrN k := by
  induction k with
  | zero => rfl
  | succ k ih => rw [wrN_succ, redoE_snoc, ih, wrN_put, wrN_succ]
/-- A word that was put last is the one that is told. -/
theorem wordE_putE {es : List (Int × Int)} (hd : (es.map Prod.fst).Nodup) (a x : Int) (h : idxE es a < es.length) : idxE (putE es a x) a < (putE es a x).length ∧ wordE (putE es a x) a = x := by
  have hm : a ∈ (putE es a x).map Prod.fst := by rw [putE_keys]; rw [if_pos (idxE_mem.1 h)]; exact idxE_mem.1 h
  have hl := idxE_mem.2 hm
  refine ⟨hl, ?_⟩
  have hp : putE es a x = es.set (idxE es a) (a, x) := if_pos h
  have h1 : (putE es a x)[idxE es a]? = some (a, x) := by rw [hp, List.getElem?_set]; simp [h]
  have h2 := idxE_of (putE_nodup hd a x) h1
  have h3 := idxE_at hl
  rw [h2, h1] at h3
  injection h3 with h3
  injection h3 with _ h3
  exact h3.symm
/-- The state behind k gets of the cell 7. -/
def sdR (k : Nat) : Sd := ⟨0, List.replicate k (7, 0), [], 1, 0, 0, 0, 0, 0⟩
def sdW (k : Nat) : Sd := ⟨0, [], wrN k, 1, 0, 0, 0, 0, 0⟩
theorem sdR_succ (k : Nat) : ((((sdR k).to 3 0 7 0 0 0).reads ((sdR k).rd ++ [(7, 0)])).to 1 0 0 0 0 0) = sdR (k + 1) := by
  show Sd.mk 0 (List.replicate k (7, 0) ++ [(7, 0)]) [] 1 0 0 0 0 0 = Sd.mk 0 (List.replicate (k + 1) (7, 0)) [] 1 0 0 0 0 0
  rw [List.replicate_succ']
theorem sdW_succ (k : Nat) : (sdW k).writes (putE (sdW k).wr (k : Int) 1) = sdW (k + 1) := by
  show Sd.mk 0 [] (putE (wrN k) (k : Int) 1) 1 0 0 0 0 0 = Sd.mk 0 [] (wrN (k + 1)) 1 0 0 0 0 0
  rw [wrN_put]
theorem word_2000 (d : Int) : C.wordAt (List.replicate 2000 0) d = 0 := by
  unfold C.wordAt
  split
  · rw [List.getElem?_replicate]; split <;> rfl
  · rfl

section
variable {w W : World} {R : Sh} {x : Int} {a ra da : Nat} {La : List (Int × Int)} {Oa Pa : Nat → Prop} {b rb db : Nat} {Lb : List (Int × Int)} {Ob Pb : Nat → Prop} {Sa Sb : Sd}
/-- One get of the first, both its steps. -/
theorem Du.get7 {k : Nat} (h : Du w W R (List.replicate 2000 0) 0 a ra da La Oa Pa (sdR k) b rb db Lb Ob Pb Sb) (hk : k < 1024) :
    Calls Tryd.prog 15 #[.pointer (some ⟨a, 0, none⟩), .int .u64 7] W fun e W' => e = .returned (.tuple #[turnV 1 0 0 0 0 false, .int .i64 0]) ∧ Du w W' R (List.replicate 2000 0) 0 a ra da La Oa Pa ((sdR k).to 3 0 7 0 0 0) b rb db Lb Ob Pb Sb := by
  have := get_fetch a ra da R La Oa Pa (sdR k) (List.replicate 2000 0) 0 7 W h.on h.tz rfl (by show ¬ (0 < 0); omega) (by decide) (by rw [List.length_replicate]; decide) (by show (List.replicate k _).length < 1024; rw [List.length_replicate]; exact hk)
  rw [word_2000] at this
  exact this.mono fun e W' ⟨h1, h2, h3⟩ => ⟨h1, h.same h2 h3⟩
theorem Du.look7 {k : Nat} (h : Du w W R (List.replicate 2000 0) 0 a ra da La Oa Pa ((sdR k).to 3 0 7 0 0 0) b rb db Lb Ob Pb Sb) (hk : k < 1024) :
    Calls Tryd.prog 16 #[.pointer (some ⟨a, 0, none⟩)] W fun e W' => e = .returned (.tuple #[turnV 2 0 2 7 0 false, .int .i64 0]) ∧ ∃ Oa', Du w W' R (List.replicate 2000 0) 0 a ra da La Oa' Pa (sdR (k + 1)) b rb db Lb Ob Pb Sb := by
  refine (st_look (S := (sdR k).to 3 0 7 0 0 0) h.on rfl (by show (List.replicate k _).length < 1024; rw [List.length_replicate]; exact hk)).mono fun e W' ⟨h1, Or', h2, h3, h4⟩ => ⟨h1, Or', ?_⟩
  rw [← sdR_succ]
  refine h.next h2 (fun q hq => ?_) h4
  rcases hq with hq | hq | hq
  · exact .inl (.inl hq)
  · exact (h3 q hq).imp (fun e => .inr (.inl e)) id
  · exact .inl (.inr (.inr hq))
theorem Du.full7 (h : Du w W R (List.replicate 2000 0) 0 a ra da La Oa Pa (sdR 1024) b rb db Lb Ob Pb Sb) :
    Calls Tryd.prog 15 #[.pointer (some ⟨a, 0, none⟩), .int .u64 7] W fun e W' => e = .returned (.tuple #[turn0, .int .i64 5]) ∧ Du w W' R (List.replicate 2000 0) 0 a ra da La Oa Pa (sdR 1024) b rb db Lb Ob Pb Sb :=
  (get_full a ra da R La Oa Pa (sdR 1024) (List.replicate 2000 0) 0 7 W h.on h.tz rfl (by show ¬ (0 < 0); omega) (by rw [List.length_replicate]; decide) (by show (List.replicate 1024 _).length = 1024; rw [List.length_replicate])).mono fun e W' ⟨h1, h2, h3⟩ => ⟨h1, h.same h2 h3.up⟩
/-- A Put of the second. -/
theorem Du.put (h : Du w W R (List.replicate 2000 0) x b rb db Lb Ob Pb Sb a ra da La Oa Pa Sa) (d y : Int) (hp : Sb.ph = 1) (hd : d < 2000) (hF : ¬ Full 1024 Lb d) (hm : Lb.length < 4398046511104) :
    Calls Tryd.prog 11 #[.pointer (some ⟨b, 0, none⟩), .int .u64 d, .int .u64 y] W fun e W' => e = .returned (.tuple #[turnV 3 0 3 d y false, .int .i64 0]) ∧ ∃ Pb', Du w W' R (List.replicate 2000 0) x b rb db (Lb ++ [(d, y)]) Ob Pb' (Sb.writes (putE Sb.wr d y)) a ra da La Oa Pa Sa := by
  refine (put_ok b rb db R Lb Ob Pb Sb (List.replicate 2000 0) x d y W h.on h.tz hp (by rw [List.length_replicate]; omega) hF hm).mono fun e W' ⟨h1, Pb', h2, h3, h4⟩ => ⟨h1, Pb', h.next h2 (fun q hq => ?_) h4⟩
  rcases hq with hq | hq | hq
  · exact .inl (.inl hq)
  · exact .inl (.inr (.inl hq))
  · exact (h3 q hq).imp (fun e => .inr (.inr e)) id
end
end Go.Proofs.YtmhinalgjfiliaaDoor
