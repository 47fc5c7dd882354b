/-
  No statement of the seat is proved here. (Several texts in one: OpO.)
-/
import Derived.Test.YthmiainhaebjiaaGreatDoorM16OpM

/- A walk of together (layer 16). No statement of the seat is proved here. -/
namespace Go.Proofs.YthmiainhaebjiaaGreatDoor
open Go.RowKit Go.Shelf
attribute [local go_sem] Oper.semAt_some

/-- A past as it is looked into. -/
structure PA (w : World) (pb mb b2 : Nat) (vF : Value) (F : List Int) (f : Int → Option Sl) (W : List Pt) : Prop where
  c0 : w.cell? ⟨pb, 0, none⟩ = some vF
  c4 : w.cell? ⟨pb, 4, none⟩ = some (.map (some mb))
  ws : WsAt w vF F
  st : StAt w mb b2 f (setN F W W.length)
  si : SInv F (setN F W W.length) W.length (fun m => stN F W (min m.toNat W.length))
  wl : W.length ≤ 1050000
theorem PA.keeps {w w' : World} {pb mb b2 : Nat} {vF : Value} {F : List Int} {f : Int → Option Sl} {W : List Pt} (h : PA w pb mb b2 vF F f W) (k : Keeps (fun _ => False) w w') : PA w' pb mb b2 vF F f W :=
  ⟨k.cellB (fun f => f) h.c0, k.cellB (fun f => f) h.c4, h.ws.keeps wC_ne k, h.st.keeps k (fun f => f) (fun _ _ _ f => f), h.si, h.wl⟩
theorem MapU.new (w : World) : MapU (w.alloc (.map #[] 0)) w.heap.size (fun _ => none) := ⟨#[], 0, [], (MapKept.heap_alloc w (.map #[] 0)).1, rfl, List.nodup_nil, fun _ => rfl⟩
@[go_sem] theorem run_mkMapU (w : World) : (Instr.makeMap 104 none).run Tryz.prog w = .ok (.map (some w.heap.size)) (w.alloc (.map #[] 0)) := by
  simp [Instr.makeMap, Result.andThen]
theorem SpAt.on {w w' : World} {base sb : Nat} {fr : Int} {v : Value} {D : List Int} {S : Nat → Prop} (h : SpAt w base sb fr v D) (k : Keeps S w w') (h1 : ¬ S sb) (h2 : ∀ g, v.ownBlock = some g → ¬ S g) : SpAt w' base sb fr v D :=
  ⟨(k.block sb (lt_of_block h.blk) h1).trans h.blk, h.row.keeps k h2, h.ap, h.lo⟩
theorem SpAt.grown {w w' : World} {base sb : Nat} {fr : Int} {g n cap : Nat} {D : List Int} {row : Option Nat} (h : SpAt w base sb fr (.slice (some ⟨g, 0, none⟩) n cap) D) (hg : w.grownBy w' row) (hr : ∀ r, row = some r → ∃ o : Obj, w.heap[r]? = some o ∧ o.isCells = false) : SpAt w' base sb fr (.slice (some ⟨g, 0, none⟩) n cap) D := by
  refine h.on (keeps_grown hg) (fun e => ?_) (fun q hq e => ?_)
  · obtain ⟨o, ho, hc⟩ := hr _ e
    rw [h.blk] at ho; cases ho; cases hc
  · obtain ⟨o, ho, hc⟩ := hr _ e
    rcases h.row.own.2 with ⟨q1, _⟩ | ⟨g3, cap3, cur3, q1, q2, q3, _⟩
    · cases q1
    · injection q1 with q1; injection q1 with q1; injection q1 with q1
      simp only [Value.ownBlock, Option.some.injEq] at hq
      subst q1 hq
      rw [q3] at ho; cases ho; cases hc
/-- What together has of the first k words. -/
structure TI (w X : World) (fr n sb g cap lb : Nat) (F : List Int) (W : List Pt) (ws : List (Int × Int)) (k : Nat) (ds : List Deferred) (D : List Int) (A : Int → Option Int) : Prop where
  ma : Marks ds X
  ml : ∀ d ∈ ds, ∃ r, d = { target := .collected r, args := #[] } ∧ w.heap.size ≤ r
  sp : SpAt X (w.heap.size + 1) sb (fr : Int) (.slice (some ⟨g, 0, none⟩) (n + 2) cap) D
  dl : D.length = n + 2
  cnt : ∀ j, j < n + 2 → 0 ≤ preL D (j + 1) ∧ preL D (j + 1) ≤ k
  zero : ∀ j, j < n + 1 → (preL D (j + 1) = 0 ↔ ∀ e ∈ ws.take k, wdAt (stN F W (fr + j)) e.1 = e.2)
  mp : MapU X (lb + 1) A
  a1 : ∀ a x, A a = some x → (a, x) ∈ ws.take k
  a2 : ∀ e ∈ ws.take k, A e.1 = some e.2
  fb : X.heap[w.heap.size]? = some (.cells #[.int .i64 (fr : Int)] 3 (0, 0))
  lbx : X.heap[lb]? = some (.cells #[.pointer (some ⟨sb, 0, none⟩)] 102 (0, 0))
  kp : Keeps (fun _ => False) w X
theorem TI.alloc {w X : World} {fr n sb g cap lb : Nat} {F : List Int} {W : List Pt} {ws : List (Int × Int)} {k : Nat} {ds : List Deferred} {D : List Int} {A : Int → Option Int} (h : TI w X fr n sb g cap lb F W ws k ds D A) {Y : World} (kk : Keeps (fun _ => False) X Y) : TI w Y fr n sb g cap lb F W ws k ds D A :=
  ⟨h.ma.keeps kk (fun _ f => f.elim), h.ml, h.sp.keeps kk (fun _ _ _ f => f), h.dl, h.cnt, h.zero, h.mp.keeps kk (fun f => f), h.a1, h.a2, (kk.block _ (lt_of_block h.fb) (fun f => f)).trans h.fb, (kk.block _ (lt_of_block h.lbx) (fun f => f)).trans h.lbx, h.kp.trans kk⟩
theorem TI.low {w X : World} {fr n sb g cap lb : Nat} {F : List Int} {W : List Pt} {ws : List (Int × Int)} {k : Nat} {ds : List Deferred} {D : List Int} {A : Int → Option Int} (h : TI w X fr n sb g cap lb F W ws k ds D A) : ∀ q, ({ target := .collected q, args := #[] } : Deferred) ∈ ds → w.heap.size ≤ q := fun q hq => by
  obtain ⟨r, e, hr⟩ := h.ml _ hq
  injection e with e
  injection e with e
  omega
/-- A word that was asked already. -/
theorem TI.again {w X : World} {fr n sb g cap lb : Nat} {F : List Int} {W : List Pt} {ws : List (Int × Int)} {k : Nat} {ds : List Deferred} {D : List Int} {A : Int → Option Int} (h : TI w X fr n sb g cap lb F W ws k ds D A) (hk : k < ws.length) (hA : A (ws[k]).1 = some (ws[k]).2) : TI w X fr n sb g cap lb F W ws (k + 1) ds D A := by
  have htk : ws.take (k + 1) = ws.take k ++ [ws[k]] := List.take_succ_eq_append_getElem hk
  have hm := h.a1 _ _ hA
  have hall : ∀ e, e ∈ ws.take (k + 1) ↔ e ∈ ws.take k := fun e => by
    rw [htk, List.mem_append, List.mem_singleton]
    exact ⟨fun q => q.elim id (fun e => by rw [e]; exact hm), .inl⟩
  refine ⟨h.ma, h.ml, h.sp, h.dl, fun j hj => by have := h.cnt j hj; omega, fun j hj => ?_, h.mp, fun a x ha => (hall _).2 (h.a1 a x ha), fun e he => h.a2 e ((hall e).1 he), h.fb, h.lbx, h.kp⟩
  rw [h.zero j hj]
  exact ⟨fun q e he => q e ((hall e).1 he), fun q e he => q e ((hall e).2 he)⟩
/-- A word more. -/
theorem TI.more {w X Y : World} {fr n U sb g cap lb mb b2 pb : Nat} {vF : Value} {F : List Int} {f : Int → Option Sl} {W : List Pt} {ws : List (Int × Int)} {k : Nat} {ds : List Deferred} {D D' : List Int} {A : Int → Option Int} (h : TI w X fr n sb g cap lb F W ws k ds D A) (hP : PA w pb mb b2 vF F f W) (hk : k < ws.length) (hU : U = fr + n) (hup : U ≤ W.length) (hin : 0 ≤ (ws[k]).1 ∧ (ws[k]).1 < (F.length : Int)) (hA : A (ws[k]).1 = none)
    (hsp : SpAt Y (w.heap.size + 1) sb (fr : Int) (.slice (some ⟨g, 0, none⟩) (n + 2) cap) D') (hdl : D'.length = n + 2) (hst : Str D' (fun j => preL D (j + 1)) (crs F (setN F W W.length) (ws[k]).1) fr U (ws[k]).2 (fr : Int)) (hmp : MapU Y (lb + 1) (fun y => if y = (ws[k]).1 then some (ws[k]).2 else A y)) {ds' : List Deferred} (hmk : Marks ds' Y) (hml : ∀ d ∈ ds', ∃ r, d = { target := .collected r, args := #[] } ∧ w.heap.size ≤ r) (hfb : Y.heap[w.heap.size]? = some (.cells #[.int .i64 (fr : Int)] 3 (0, 0))) (hlb : Y.heap[lb]? = some (.cells #[.pointer (some ⟨sb, 0, none⟩)] 102 (0, 0))) (kk : Keeps (fun _ => False) w Y) :
    TI w Y fr n sb g cap lb F W ws (k + 1) ds' D' (fun y => if y = (ws[k]).1 then some (ws[k]).2 else A y) := by
  have htk : ws.take (k + 1) = ws.take k ++ [ws[k]] := List.take_succ_eq_append_getElem hk
  refine ⟨hmk, hml, hsp, hdl, fun j hj => ?_, fun j hj => ?_, hmp, fun a x ha => ?_, fun e he => ?_, hfb, hlb, kk⟩
  · have h1 := hst j (by omega)
    have h2 := h.cnt j hj
    rw [h1]
    dsimp only
    split <;> omega
  · have h1 := hst j (by omega)
    have h2 := h.cnt j (by omega)
    have hz := h.zero j hj
    have hv := hP.si.val (ws[k]).1 hin.1 hin.2 ((fr : Int) + j) (by omega)
    rw [show min ((fr : Int) + j).toNat W.length = fr + j by omega] at hv
    rw [htk]
    dsimp only at h1
    constructor
    · intro q e he
      rcases List.mem_append.1 he with he | he
      · exact hz.1 (by split at h1 <;> omega) e he
      · rw [List.mem_singleton] at he
        rw [he, ← hv]
        by_cases hw : valF (crs F (setN F W W.length) (ws[k]).1) ((fr : Int) + j) 0 = (ws[k]).2
        · exact hw
        · rw [if_pos ⟨by omega, by omega, hw⟩] at h1; omega
    · intro q
      have q1 : preL D (j + 1) = 0 := hz.2 fun e he => q e (List.mem_append.2 (.inl he))
      have q2 := q _ (List.mem_append.2 (.inr (List.mem_singleton.2 rfl)))
      rw [← hv] at q2
      rw [if_neg (fun x => x.2.2 q2)] at h1
      omega
  · rw [htk]
    split at ha
    · rename_i q
      cases ha
      rw [q]; exact List.mem_append.2 (.inr (List.mem_singleton.2 rfl))
    · exact List.mem_append.2 (.inl (h.a1 a x ha))
  · rw [htk] at he
    rcases List.mem_append.1 he with he | he
    · split
      · rename_i q
        have := h.a2 e he
        rw [q, hA] at this; cases this
      · exact h.a2 e he
    · rw [List.mem_singleton] at he
      rw [he, if_pos rfl]
theorem Marks.at {W : World} {q : Nat} : ∀ {ds : List Deferred}, Marks ds W → ({ target := .collected q, args := #[] } : Deferred) ∈ ds → W.heap[q]? = some (.deferred (some []))
  | [], _, hd => by simp at hd
  | e :: ds, ⟨⟨r, h1, h2, h3⟩, h4⟩, hd => by
    rcases List.mem_cons.1 hd with e1 | hd
    · rw [h1] at e1
      injection e1 with e1
      injection e1 with e1
      rw [e1]; exact h2
    · exact Marks.at h4 hd
theorem OwnR.cells {α : Type} {c : α → List Value} {sz : Nat} {t : TypeId} {w : World} {base : Nat} {v : Value} {L : List α} (h : OwnR c sz t w base v L) {q : Nat} (hq : v.ownBlock = some q) : ∃ cs, w.heap[q]? = some (.cells cs t (0, 0)) := by
  rcases h.own.2 with ⟨rfl, _⟩ | ⟨g3, cap3, cur3, rfl, q2, q3, _⟩
  · simp [Value.ownBlock] at hq
  · simp only [Value.ownBlock, Option.some.injEq] at hq
    subst hq; exact ⟨_, q3⟩
/-- While a course is gone along: struck so far down to E. -/
def RIp (X5 : World) (b1 fr n U sb g cap eb c : Nat) (c0 : Nat → Int) (l : List (Int × Int)) (wd : Int) (m : Nat) (D : List Int) (E : Int) (Y : World) : Prop :=
  SpAt Y b1 sb (fr : Int) (.slice (some ⟨g, 0, none⟩) (n + 2) cap) D ∧ D.length = n + 2 ∧ Str D c0 l fr U wd E ∧ Y.heap[eb]? = some (.cells #[.int .i64 E] 3 (0, 0)) ∧ (m = 0 → E = (U : Int) + 1) ∧ (0 < m → (fr : Int) < E ∧ E = ((l[c - m]?).getD (0, 0)).1) ∧ m ≤ c ∧ Keeps (fun q => q = eb ∨ q = g) X5 Y
/-- Behind it. -/
def RXp (X5 : World) (b1 fr n U sb g cap eb : Nat) (c0 : Nat → Int) (l : List (Int × Int)) (wd : Int) (D : List Int) (Y : World) : Prop :=
  SpAt Y b1 sb (fr : Int) (.slice (some ⟨g, 0, none⟩) (n + 2) cap) D ∧ D.length = n + 2 ∧ Str D c0 l fr U wd (fr : Int) ∧ Keeps (fun q => q = eb ∨ q = g) X5 Y
theorem ri_own {X5 : World} {b1 fr n U sb g cap eb c : Nat} {c0 : Nat → Int} {l : List (Int × Int)} {wd : Int} : OwnFrom X5.heap.size (fun (pre : List (Nat × (Int × Int))) Y => ∃ D E, RIp X5 b1 fr n U sb g cap eb c c0 l wd pre.length D E Y) := by
  rintro s A B row ⟨D, E, h1, h2, h3, h4, h5, h6, h7, h8⟩ hg hr
  exact ⟨D, E, h1.grown hg (fun r e => (hr r e).2), h2, h3, block_kept h4 hg (fun r e => (hr r e).2), h5, h6, h7, ownFrom_keeps (β := Unit) (Nat.le_refl _) () A B row h8 hg hr⟩
theorem rx_own {X5 : World} {b1 fr n U sb g cap eb : Nat} {c0 : Nat → Int} {l : List (Int × Int)} {wd : Int} (C : Code) : OwnFrom X5.heap.size (fun (_ : List (Nat × (Int × Int))) Y => C = .exit 1 ∧ ∃ D, RXp X5 b1 fr n U sb g cap eb c0 l wd D Y) := by
  rintro s A B row ⟨h0, D, h1, h2, h3, h8⟩ hg hr
  exact ⟨h0, D, h1.grown hg (fun r e => (hr r e).2), h2, h3, ownFrom_keeps (β := Unit) (Nat.le_refl _) () A B row h8 hg hr⟩
/-- What is no cells stays. -/
theorem turned {Y Z : World} {eb g B bx : Nat} {a : Option Addr} (k : Keeps (fun q => q = eb ∨ q = g) Y Z) (he : ∃ c t fr, Y.heap[eb]? = some (.cells c t fr)) (hg : ∃ c t fr, Y.heap[g]? = some (.cells c t fr)) (h1 : ¬ BkOn bx a eb) (h2 : ¬ BkOn bx a g) : KeepsFrom B Y Z ∧ KeptOn (BkOn bx a) Y Z := by
  refine ⟨⟨k.size, fun q o _ ho hc => (k.block q (lt_of_block ho) ?_).trans ho⟩, KeptOn.keeps k ?_⟩
  · rintro (rfl | rfl)
    · obtain ⟨c, t, fr, hb⟩ := he
      rw [hb] at ho; cases ho; cases hc
    · obtain ⟨c, t, fr, hb⟩ := hg
      rw [hb] at ho; cases ho; cases hc
  · rintro q hq (rfl | rfl)
    · exact h1 hq
    · exact h2 hq
set_option maxRecDepth 100000 in
set_option maxHeartbeats 8000000 in
theorem together_any (pb mb b2 : Nat) (vF : Value) (F : List Int) (f : Int → Option Sl) (W : List Pt) (fr n : Nat) (hup : fr + n ≤ W.length) (ws : List (Int × Int)) (vw : Value) (hwl : ws.length ≤ 1100000) (hin : ∀ e ∈ ws, 0 ≤ e.1 ∧ e.1 < (F.length : Int)) (w : World) (h : PA w pb mb b2 vF F f W) (hw : ElsAt clC 2 w vw ws) :
    Calls Tryz.prog 29 #[.pointer (some ⟨pb, 0, none⟩), .int .i64 (fr : Int), .int .i64 ((fr + n : Nat) : Int), vw] w fun ex w' => ∃ u, ex = .returned u ∧ NR w' w.heap.size u (togL F W fr (fr + n) ws) ∧ Keeps (fun _ => False) w w' := by
  have hWl := h.wl
  have k0 := (Keeps.refl (fun _ => False) w).alloc (.cells #[.int .i64 (fr : Int)] 3)
  have b0 := (MapKept.heap_alloc w (.cells #[.int .i64 (fr : Int)] 3)).1
  have WS := wholeSpan_any fr n (by omega) (w.alloc (.cells #[.int .i64 (fr : Int)] 3))
  obtain ⟨va, vcap, rfl, hvc⟩ := hw.shape
  obtain ⟨U, hU⟩ : ∃ U : Nat, U = fr + n := ⟨_, rfl⟩
  rw [← hU] at WS ⊢
  have HU : Hid (U = fr + n) := hU
  clear hU
  refine (callsIn_wide (n := 3)).1 ?_
  refine callsIn_of_wp_marks Tryz.func29 rfl trivial ?_ rfl
  simp only [Tryz.ntmps29, List.size_toArray, List.length_cons, List.length_nil, Nat.reduceAdd, Nat.reduceSub, Array.replicate_succ, Array.replicate_zero, List.push_toArray, List.append_toArray, List.nil_append, List.cons_append]
  gi_wp2_with fail
  refine wpIn_scope_straight ?_
  gi_wp2_with fail
  refine ⟨trivial, (callsIn_wide.2 WS).mono ?_⟩
  rintro ex w1 ⟨sb, v, rfl, hsp, k1⟩
  clear WS
  obtain ⟨lb, hlb⟩ : ∃ lb, lb = w1.heap.size := ⟨_, rfl⟩
  obtain ⟨g, cap, cur, rfl, hbg, hgb, hgs⟩ := hsp.row.at (by simp)
  have hgl := lt_of_block hgb
  have hsl := lt_of_block hsp.blk
  have hgs2 : g ≠ sb := hsp.ap g rfl
  have hs0 : (w.alloc (.cells #[.int .i64 (fr : Int)] 3)).heap.size = w.heap.size + 1 := by simp
  rw [hs0] at hsp hbg
  rw [List.length_replicate] at hsp
  have hslo := hsp.lo
  have kL := (Keeps.refl (fun _ => False) w1).alloc (.cells #[.pointer (some ⟨sb, 0, none⟩)] 102)
  have bL := (MapKept.heap_alloc w1 (.cells #[.pointer (some ⟨sb, 0, none⟩)] 102)).1
  have kM := (Keeps.refl (fun _ => False) (w1.alloc (.cells #[.pointer (some ⟨sb, 0, none⟩)] 102))).alloc (.map #[] 0)
  have MN : MapU ((w1.alloc (.cells #[.pointer (some ⟨sb, 0, none⟩)] 102)).alloc (.map #[] 0)) (w1.heap.size + 1) (fun _ => none) := by
    have := MapU.new (w1.alloc (.cells #[.pointer (some ⟨sb, 0, none⟩)] 102))
    rwa [show (w1.alloc (.cells #[.pointer (some ⟨sb, 0, none⟩)] 102)).heap.size = w1.heap.size + 1 by simp] at this
  have T0 : TI w ((w1.alloc (.cells #[.pointer (some ⟨sb, 0, none⟩)] 102)).alloc (.map #[] 0)) fr n sb g cap lb F W ws 0 [] (List.replicate (n + 2) 0) (fun _ => none) :=
    ⟨trivial, fun d hd => (by simp at hd), hsp.keeps (kL.trans kM) (fun _ _ _ f => f), by simp, fun j hj => by rw [preL_rep]; omega, fun j hj => by rw [preL_rep]; simp, by rw [hlb]; exact MN, fun a x e => (by cases e), fun e he => (by simp at he), (((k1.trans kL).trans kM).block _ (lt_of_block b0) (fun f => f)).trans b0, by rw [hlb]; exact (kM.block _ (lt_of_block bL) (fun f => f)).trans bL, ((k0.trans k1).trans kL).trans kM⟩
  have hlw : w.heap.size + 1 < lb := by omega
  have hgl2 : g < lb := by omega
  have hsl2 : sb < lb := by omega
  have HW : Hid (∀ X, Keeps (fun _ => False) w X → ElsAt clC 2 X (.slice va ws.length vcap) ws) := fun X k => hw.keeps cl_ne k
  have HP : Hid (PA w pb mb b2 vF F f W) := h
  have HN : Hid (∀ e ∈ ws, 0 ≤ e.1 ∧ e.1 < (F.length : Int)) := hin
  have HG : Hid (g ≠ sb ∧ w.heap.size + 1 ≤ g ∧ w.heap.size + 1 ≤ sb) := ⟨hgs2, hbg, hslo⟩
  have hU1 : U ≤ W.length := by have := HU.out; omega
  have HLB : Hid (lb = w1.heap.size) := hlb
  clear hsp hgb hgs kL bL kM MN k1 k0 b0 hw h hin hlb hgl hsl hs0 hgs2 hbg hslo
  gi_wp2_with fail
  refine wpIn_labelS ?_
  gi_wp2_with fail
  rw [← HLB.out]
  clear HLB
  refine wpIn_loop (fun a X => ∃ (k : Nat) (i : Int) (ds : List Deferred) (u12 u13 u14 u15 u26 u27 u28 u29 u30 u31 u32 u33 u34 u35 u36 u37 u38 u39 u40 u41 u42 u43 u44 u45 u46 u47 u48 u49 u50 u51 u52 u53 u73 : Value), a = { tmps := #[.pointer (some ⟨pb, 0, none⟩), .int .i64 (fr : Int), .int .i64 (U : Int), .slice va ws.length vcap, undef, .pointer (some ⟨w.heap.size, 0, none⟩), undef, undef, .slice none 0 0, .pointer (some ⟨lb, 0, none⟩), .map (some (lb + 1)), undef, u12, u13, u14, u15, undef, undef, undef, .int .i64 (fr : Int), .int .i64 (U : Int), .pointer (some ⟨sb, 0, none⟩), .map (some (lb + 1)), .slice va ws.length vcap, .int .i64 (ws.length : Int), .int .i64 i, u26, u27, u28, u29, u30, u31, u32, u33, u34, u35, u36, u37, u38, u39, u40, u41, u42, u43, u44, u45, u46, u47, u48, u49, u50, u51, u52, u53, undef, undef, undef, undef, undef, undef, undef, undef, undef, undef, undef, undef, undef, undef, undef, undef, undef, undef, undef, u73, undef, undef], defers := ds } ∧ i = (k : Int) ∧ k ≤ ws.length ∧ ∃ D A, TI w X fr n sb g cap lb F W ws k ds D A) (fun a _ => ws.length - (intOf (a.tmps.getD 25 undef)).toNat) ?_ ?_
  · exact ⟨0, 0, [], undef, undef, undef, undef, undef, undef, undef, undef, undef, undef, undef, undef, undef, undef, undef, undef, undef, undef, undef, undef, undef, undef, undef, undef, undef, undef, undef, undef, undef, undef, undef, undef, undef, rfl, rfl, Nat.zero_le _, _, _, T0⟩
  clear T0
  rintro a X ⟨k, i, ds, u12, u13, u14, u15, u26, u27, u28, u29, u30, u31, u32, u33, u34, u35, u36, u37, u38, u39, u40, u41, u42, u43, u44, u45, u46, u47, u48, u49, u50, u51, u52, u53, u73, rfl, rfl, hk, D, A, hT⟩
  have HT : Hid (TI w X fr n sb g cap lb F W ws k ds D A) := hT
  have fbx : X.cell? ⟨w.heap.size, 0, none⟩ = some (.int .i64 (fr : Int)) := by rw [cell_of_block hT.fb]; rfl
  have lbc : X.cell? ⟨lb, 0, none⟩ = some (.pointer (some ⟨sb, 0, none⟩)) := by rw [cell_of_block hT.lbx]; rfl
  by_cases hlt : k < ws.length
  · have hki : (k : Int) < ws.length := by omega
    have hk0 : (0 : Int) ≤ k := by omega
    obtain ⟨ga, off, rfl, hc⟩ := (HW.out X hT.kp).at k hlt
    have hwk : IntKind.i64.wrap ((k : Int) + 1) = (k : Int) + 1 := by rw [IntKind.wrap_i64]; omega
    have kB := (Keeps.refl (fun _ => False) X).alloc (.cells #[.int .u64 (ws[k]).1, .int .u64 (ws[k]).2] 28)
    have bB := (MapKept.heap_alloc X (.cells #[.int .u64 (ws[k]).1, .int .u64 (ws[k]).2] 28)).1
    have y0 := hc 0 _ rfl
    have y1 := hc 1 _ rfl
    simp only [Nat.add_zero] at y0
    have LK := (hT.mp.keeps kB (fun f => f)).look (ws[k]).1
    unfold lookV at LK
    have HIn : Hid (0 ≤ (ws[k]).1 ∧ (ws[k]).1 < (F.length : Int)) := HN.out _ (List.getElem_mem hlt)
    obtain ⟨ad, had⟩ : ∃ ad, ad = (ws[k]).1 := ⟨_, rfl⟩
    obtain ⟨wd, hwd⟩ : ∃ wd, wd = (ws[k]).2 := ⟨_, rfl⟩
    have HE : Hid (ad = (ws[k]).1 ∧ wd = (ws[k]).2) := ⟨had, hwd⟩
    rw [← had, ← hwd] at kB bB
    rw [← had, ← hwd] at LK
    rw [← had] at y0 HIn
    rw [← hwd] at y1
    clear had hwd hc
    cases hA : A ad with
    | some y =>
      rw [hA] at LK
      simp only [Option.getD_some, Option.isSome_some] at LK
      by_cases hy : y = wd
      · subst hy
        have HF : Hid (TI w (X.alloc (.cells #[.int .u64 ad, .int .u64 y] 28)) fr n sb g cap lb F W ws (k + 1) ds D A) := (hT.alloc kB).again hlt (by rw [← HE.out.1, ← HE.out.2]; exact hA)
        clear hT hA kB bB
        gi_wp2_with fail
        refine ⟨⟨k + 1, (k : Int) + 1, ds, _, _, _, _, _, _, _, _, _, _, _, _, _, _, _, _, _, _, _, _, _, _, _, _, _, _, _, _, _, _, _, _, _, rfl, by simp, by omega, D, A, HF.out⟩, ?_⟩
        simp [intOf]; omega
      · have hyb : (y != wd) = true := by rw [bne_iff_ne]; exact hy
        have hyc : (y == wd) = false := by rw [beq_eq_false_iff_ne]; exact hy
        have HF : Hid (togL F W fr U ws = [] ∧ TI w (X.alloc (.cells #[.int .u64 ad, .int .u64 wd] 28)) fr n sb g cap lb F W ws k ds D A) := by
          refine ⟨tog_none (a := ad) (x := y) (y := wd) ?_ ?_ hy, hT.alloc kB⟩
          · exact List.mem_of_mem_take (hT.a1 ad y hA)
          · rw [HE.out.1, HE.out.2]; exact List.getElem_mem hlt
        clear hT hA kB bB
        gi_wp2_with fail
        refine leaves_marks ds _ HF.out.2.ma fun W' kW => ?_
        refine ⟨.slice none 0 0, by simp [results, Tryz.f29, go_sem], .slice none 0 0, rfl, ?_, ?_⟩
        · rw [HF.out.1]
          exact OwnR.nilB _ _ _ _ _ (Nat.le_trans HF.out.2.kp.size kW.size)
        · exact HF.out.2.kp.young kW (HF.out.2.low)
    | none =>
      rw [hA] at LK
      simp only [Option.getD_none, Option.isSome_none] at LK
      have hT1 := hT.alloc kB
      obtain ⟨X2, m1, m2, m3⟩ := hT1.mp.put ad wd
      have HTa : Hid (A (ws[k]).1 = none) := by rw [← HE.out.1]; exact hA
      have kE := (Keeps.refl (fun _ => False) X2).alloc (.cells #[.int .i64 ((U : Int) + 1)] 3)
      have bE := (MapKept.heap_alloc X2 (.cells #[.int .i64 ((U : Int) + 1)] 3)).1
      have K3 : Keeps (fun _ => False) w (X2.alloc (.cells #[.int .i64 ((U : Int) + 1)] 3)) := (hT1.kp.young m3 (fun q e => by omega)).trans kE
      have P3 := HP.out.keeps K3
      have hcr := P3.si.cr ad HIn.out.1 HIn.out.2
      have hcl := hcr.len
      have CU := courseUpto_any pb mb b2 f (setN F W W.length) ad vF F U (by omega) HIn.out.1 HIn.out.2 _ P3.c0 P3.c4 P3.ws P3.st (by omega) hcr.up w.heap.size (fun a s q h1 h2 => (own_block (HP.out.st.row a s h1).own h2).1)
      have wU : IntKind.i64.wrap ((U : Int) + 1) = (U : Int) + 1 := by rw [IntKind.wrap_i64]; omega
      have kX : Keeps (fun q => q = lb + 1) X (X2.alloc (.cells #[.int .i64 ((U : Int) + 1)] 3)) := ((kB.mono fun _ _ f => f.elim).trans m3).trans (kE.mono fun _ _ f => f.elim)
      have hsX := hT.kp.size
      have hlX := hT.mp.lt
      have hs1 : (X.alloc (.cells #[.int .u64 ad, .int .u64 wd] 28)).heap.size = X.heap.size + 1 := by simp
      have hs2 := m3.size
      have wb1 : (X2.alloc (.cells #[.int .i64 ((U : Int) + 1)] 3)).cell? ⟨X.heap.size, 1, none⟩ = some (.int .u64 wd) := by
        rw [cell_of_block ((kE.block _ (lt_of_block ((m3.block _ (lt_of_block bB) (by omega)).trans bB)) (fun f => f)).trans ((m3.block _ (lt_of_block bB) (by omega)).trans bB))]; rfl
      have x20 : X2.cell? ⟨X.heap.size, 0, none⟩ = some (.int .u64 ad) := by rw [cell_of_block ((m3.block _ (lt_of_block bB) (by omega)).trans bB)]; rfl
      have x30 : (X2.alloc (.cells #[.int .i64 ((U : Int) + 1)] 3)).cell? ⟨X.heap.size, 0, none⟩ = some (.int .u64 ad) := kE.cellB (fun f => f) x20
      have hb1 : (X.alloc (.cells #[.int .u64 ad, .int .u64 wd] 28)).cell? ⟨X.heap.size, 0, none⟩ = some (.int .u64 ad) := by rw [cell_of_block bB]; rfl
      have hb2 : (X.alloc (.cells #[.int .u64 ad, .int .u64 wd] 28)).cell? ⟨X.heap.size, 1, none⟩ = some (.int .u64 wd) := by rw [cell_of_block bB]; rfl
      obtain ⟨l, hl⟩ : ∃ l, l = crs F (setN F W W.length) ad := ⟨_, rfl⟩
      rw [← hl] at CU hcr hcl
      have HL : Hid (l = crs F (setN F W W.length) ad) := hl
      have HCr : Hid (Cr l W.length) := hcr
      have HM2 : Hid (MapU X2 (lb + 1) (fun y => if y = ad then some wd else A y)) := m2
      have hs3 : (X2.alloc (.cells #[.int .i64 ((U : Int) + 1)] 3)).heap.size = X2.heap.size + 1 := by simp
      obtain ⟨eb, heb⟩ : ∃ eb, eb = X2.heap.size := ⟨_, rfl⟩
      have HEB : Hid (eb = X2.heap.size ∧ X.heap.size + 1 ≤ eb) := ⟨heb, by omega⟩
      have HB3 : Hid ((X2.alloc (.cells #[.int .i64 ((U : Int) + 1)] 3)).heap[eb]? = some (.cells #[.int .i64 ((U : Int) + 1)] 3 (0, 0)) ∧ Keeps (fun _ => False) X2 (X2.alloc (.cells #[.int .i64 ((U : Int) + 1)] 3)) ∧ Keeps (fun _ => False) w (X2.alloc (.cells #[.int .i64 ((U : Int) + 1)] 3)) ∧ Keeps (fun q => q = lb + 1) X (X2.alloc (.cells #[.int .i64 ((U : Int) + 1)] 3)) ∧ (X2.alloc (.cells #[.int .i64 ((U : Int) + 1)] 3)).cell? ⟨X.heap.size, 1, none⟩ = some (.int .u64 wd) ∧ (X2.alloc (.cells #[.int .i64 ((U : Int) + 1)] 3)).heap.size = eb + 1) := ⟨by rw [heb]; exact bE, kE, K3, kX, wb1, by rw [heb]; exact hs3⟩
      have HSX : Hid (w.heap.size ≤ X.heap.size ∧ lb + 1 < X.heap.size) := ⟨hsX, hlX⟩
      clear hl heb m2 kE bE K3 P3 hcr hcl kX hs1 hs2 hs3 wb1 hT1 kB bB hT hA hsX hlX m3 hb1 hb2
      gi_wp2_with fail
      clear m1 LK y0 y1 x20 x30
      rw [← HEB.out.1]
      generalize X2.alloc (.cells #[.int .i64 ((U : Int) + 1)] 3) = X3 at *
      refine ⟨trivial, (callsIn_wide.2 CU).mono ?_⟩
      rintro ex X4 ⟨ca, c, ccap, rfl, hab, hcl, cb1, cb2, cels, k4⟩
      clear CU
      gi_wp2_with fail
      refine ⟨trivial, (callsIn_wide.2 (bkward_any _ _ _ _)).mono ?_⟩
      rintro ex X5 ⟨rfl, hX5⟩
      have k5 := (Keeps.refl (fun _ => False) X4).alloc (.cells #[.slice ca c ccap] 109)
      have b5 := (MapKept.heap_alloc X4 (.cells #[.slice ca c ccap] 109)).1
      have hs5 : (X4.alloc (.cells #[.slice ca c ccap] 109)).heap.size = X4.heap.size + 1 := by simp
      rw [← hX5] at k5 b5 hs5
      have h4s := k4.size
      have hlc : (l.take c).length = c := by rw [List.length_take]; omega
      have BK : BkAt X5 X4.heap.size ca ccap (l.take c) := ⟨by rw [hlc]; exact b5, by rw [hlc]; exact cels.keeps st_ne k5⟩
      have HK5 : Hid (Keeps (fun _ => False) X3 X5) := k4.trans k5
      obtain ⟨bx, hbx⟩ : ∃ bx, bx = X4.heap.size := ⟨_, rfl⟩
      rw [← hbx] at BK hs5 ⊢
      have HBX : Hid (bx = X4.heap.size ∧ X3.heap.size ≤ bx ∧ X5.heap.size = bx + 1) := ⟨hbx, by omega, hs5⟩
      have HNb : Hid (¬ BkOn bx ca eb ∧ ¬ BkOn bx ca g) := by
        obtain ⟨q1, q2, q3⟩ := HBX.out
        obtain ⟨q4, q5⟩ := HEB.out
        obtain ⟨q6, q7⟩ := HSX.out
        obtain ⟨q8, q9, q10⟩ := HG.out
        have q11 := HB3.out.2.2.2.2.2
        constructor
        · rintro (e | ⟨off, e⟩)
          · omega
          · rcases hab _ _ e with q | q <;> omega
        · rintro (e | ⟨off, e⟩)
          · omega
          · rcases hab _ _ e with q | q <;> omega
      have HL4 : Hid ((∀ j (hj : j < l.length), j < c → (l[j]).1 ≤ (U : Int)) ∧ (∀ j (hj : j < l.length), c ≤ j → (U : Int) < (l[j]).1) ∧ c ≤ l.length ∧ (l.take c).length = c) := ⟨cb1, cb2, hcl, hlc⟩
      have hcW : c ≤ 1050001 := by have := HCr.out.len; omega
      have RI0 : RIp X5 (w.heap.size + 1) fr n U sb g cap eb c (fun j => preL D (j + 1)) l wd 0 D ((U : Int) + 1) X5 := by
        have hT := HT.out
        obtain ⟨q1, q2, q3, q4, q5, q6⟩ := HB3.out
        have k5 := HK5.out
        refine ⟨?_, hT.dl, str_start (fun j hj => rfl), (k5.block _ (lt_of_block q1) (fun f => f)).trans q1, fun _ => rfl, fun h => absurd h (by omega), Nat.zero_le _, Keeps.refl _ _⟩
        exact (hT.sp.on q4 (by omega) (fun q hq e => by simp only [Value.ownBlock, Option.some.injEq] at hq; omega)).keeps k5 (fun _ _ _ f => f)
      have HC5 : Hid (∀ Y, Keeps (fun q => q = eb ∨ q = g) X5 Y → Y.cell? ⟨w.heap.size, 0, none⟩ = some (.int .i64 (fr : Int)) ∧ Y.cell? ⟨X.heap.size, 1, none⟩ = some (.int .u64 wd) ∧ Y.cell? ⟨lb, 0, none⟩ = some (.pointer (some ⟨sb, 0, none⟩)) ∧ Y.heap[w.heap.size]? = some (.cells #[.int .i64 (fr : Int)] 3 (0, 0)) ∧ Y.heap[lb]? = some (.cells #[.pointer (some ⟨sb, 0, none⟩)] 102 (0, 0)) ∧ Marks ds Y ∧ Keeps (fun _ => False) w Y ∧ MapU Y (lb + 1) (fun y => if y = ad then some wd else A y)) := fun Y kY => by
        have hT := HT.out
        obtain ⟨q1, q2, q3, q4, q5, q6⟩ := HB3.out
        obtain ⟨r1, r2⟩ := HEB.out
        obtain ⟨s1, s2⟩ := HSX.out
        obtain ⟨t1, t2, t3⟩ := HG.out
        have k5 := HK5.out
        have f5 := (k5.block _ (lt_of_block ((q4.block _ (lt_of_block hT.fb) (by omega)).trans hT.fb)) (fun f => f)).trans ((q4.block _ (lt_of_block hT.fb) (by omega)).trans hT.fb)
        have l5 := (k5.block _ (lt_of_block ((q4.block _ (lt_of_block hT.lbx) (by omega)).trans hT.lbx)) (fun f => f)).trans ((q4.block _ (lt_of_block hT.lbx) (by omega)).trans hT.lbx)
        have fY := (kY.block _ (lt_of_block f5) (by omega)).trans f5
        have lY := (kY.block _ (lt_of_block l5) (by omega)).trans l5
        refine ⟨by rw [cell_of_block fY]; rfl, kY.cellB (by show ¬ (X.heap.size = eb ∨ X.heap.size = g); omega) (k5.cellB (fun f => f) q5), by rw [cell_of_block lY]; rfl, fY, lY, ?_, ?_, ?_⟩
        · have e5 := (k5.block _ (lt_of_block q1) (fun f => f)).trans q1
          have m5 : Marks ds X5 := ((hT.ma.keeps q4 (fun q e h => by
            rw [e] at h
            obtain ⟨es, cl, LL, h1, _⟩ := hT.mp.ex
            rw [h1] at h; cases h)).keeps k5 (fun _ f => f.elim))
          refine m5.keeps kY (fun q e h => ?_)
          rcases e with e | e
          · rw [e, e5] at h; cases h
          · rw [e] at h
            obtain ⟨cs, hcs⟩ := RI0.1.row.cells (q := g) rfl
            rw [hcs] at h; cases h
        · exact (q3.trans k5).young kY (fun q e => by omega)
        · exact ((HM2.out.keeps q2 (fun f => f)).keeps k5 (fun f => f)).keeps kY (by omega)
      clear hX5 hbx k5 b5 hs5 h4s k4 cels hab cb1 cb2 hcl
      gi_wp2_with fail
      refine' range_new rfl (by omega) (gf := 69) (lb := #[.pointer (some ⟨bx, 0, none⟩)]) rfl trivial (enters_of Tryz.func69 (by kernel_rfl) rfl)
        (bk_next (3 - 1) (by omega) bx ccap ca (l.take c) (by rw [hlc]; omega) X5 BK) (Below.refl _ _)
        (fun h k => h.trans k) (fun W o => KeptOn.keeps ((Keeps.refl (fun _ => False) W).alloc o) (fun _ _ f => f)) (fun W r r' hl => KeptOn.putObj W _ _ _ hl rfl) (fun _ => rfl)
        (fun pre Y => ∃ D' E, RIp X5 (w.heap.size + 1) fr n U sb g cap eb c (fun j => preL D (j + 1)) l wd pre.length D' E Y)
        (fun C _ Y => C = .exit 1 ∧ ∃ D', RXp X5 (w.heap.size + 1) fr n U sb g cap eb (fun j => preL D (j + 1)) l wd D' Y)
        ri_own (fun C => rx_own C) ⟨D, _, RI0⟩ (fun x => .cells #[.int .i64 x.2.1, .int .u64 x.2.2] 111) _ ?assign ?body ?done ?stop
      case assign =>
        intro lp x Y K b hb hK
        dsimp only [bkE]
        gi_wp2
        exact hK
      case done =>
        rintro ys Y hys ⟨D', E, hI⟩ hD
        exfalso
        obtain ⟨-, -, -, -, -, h6, h7, -⟩ := hI
        rw [hlc] at hys
        have hl4 := HL4.out
        have hcr := HCr.out
        have hne := hcr.ne
        have hc1 : 0 < c := by
          rcases Nat.eq_zero_or_pos c with q | q
          · exfalso
            have h1 := hl4.2.1 0 hne (by omega)
            have h2 := hcr.z
            omega
          · exact q
        have h8 := h6 (by omega)
        rw [hys, Nat.sub_self, List.getElem?_eq_getElem hne, Option.getD_some, hcr.z] at h8
        omega
      case stop =>
        rintro C pre Y _ ⟨rfl, D', h1, h2, h3, h4⟩ hD
        obtain ⟨c1, c2, c3, c4, c5, c6, c7, c8⟩ := HC5.out Y h4
        have HF : Hid (TI w Y fr n sb g cap lb F W ws (k + 1) ({ target := .collected X5.heap.size, args := #[] } :: ds) D' (fun y => if y = (ws[k]).1 then some (ws[k]).2 else A y)) := by
          refine HT.out.more HP.out hlt HU.out hU1 (by rw [← HE.out.1]; exact HIn.out) HTa.out h1 h2 ?_ ?_ (c6.push hD ?_) ?_ c4 c5 c7
          · rw [← HE.out.1, ← HE.out.2, ← HL.out]; exact h3
          · rw [← HE.out.1, ← HE.out.2]; exact c8
          · intro d hd
            obtain ⟨r, e, hr⟩ := HT.out.ma.lt d hd
            have := HB3.out.2.2.2.1.size
            have := HK5.out.size
            exact ⟨r, e, by omega⟩
          · intro d hd
            rcases List.mem_cons.1 hd with rfl | hd
            · exact ⟨_, rfl, by have := HB3.out.2.2.1.size; have := HK5.out.size; omega⟩
            · exact HT.out.ml d hd
        clear h1 h2 h3 h4 c1 c2 c3 c4 c5 c6 c7 c8 RI0 BK hD
        gi_wp2_with fail
        refine ⟨⟨k + 1, (k : Int) + 1, _, _, _, _, _, _, _, _, _, _, _, _, _, _, _, _, _, _, _, _, _, _, _, _, _, _, _, _, _, _, _, _, _, _, rfl, by simp, by omega, D', _, HF.out⟩, ?_⟩
        simp [intOf]; omega
      case body =>
        rintro lp pre x Y ⟨D', E, hsp, hdl, hstr, hebb, hm0, hm1, hmc, kY⟩ hlen hnx b hb hb1 hb2
        rw [hlc] at hlen
        obtain ⟨c1, c2, c3, c4, c5, c6, c7, c8⟩ := HC5.out Y kY
        clear c4 c5 c6 c7 c8
        have hl4 := HL4.out
        have hcr := HCr.out
        obtain ⟨i, hi⟩ : ∃ i, i = c - 1 - pre.length := ⟨_, rfl⟩
        have hil : i < l.length := by omega
        have hx : x = (i, l[i]) := by
          rw [hnx]
          unfold bkX
          rw [hlc, ← hi, List.getElem?_take_of_lt (by omega), List.getElem?_eq_getElem hil]; rfl
        have hlast : ∀ h : i + 1 < l.length, 0 < pre.length → E = (l[i + 1]).1 := fun h hp => by
          have := (hm1 hp).2
          rw [show c - pre.length = i + 1 by omega, List.getElem?_eq_getElem h] at this
          exact this
        have hlE : (l[i]).1 < E ∧ E ≤ (U : Int) + 1 ∧ (fr : Int) < E := by
          have h1 := hl4.1 i hil (by omega)
          rcases Nat.eq_zero_or_pos pre.length with q | q
          · have := hm0 q
            have := HU.out
            omega
          · have hi1 : i + 1 < l.length := by omega
            have h2 := hlast hi1 q
            have h3 := List.pairwise_iff_getElem.1 hcr.up i (i + 1) hil hi1 (by omega)
            have h4 := hl4.1 (i + 1) hi1 (by omega)
            have := (hm1 q).1
            omega
        have hval : ∀ nn : Int, (l[i]).1 ≤ nn → nn < E → valF l nn 0 = (l[i]).2 := fun nn h1 h2 => by
          refine valF_at hcr.up hil h1 fun h3 => ?_
          rcases Nat.eq_zero_or_pos pre.length with q | q
          · have h4 := hm0 q
            have h5 := hl4.2.1 (i + 1) h3 (by omega)
            omega
          · have := hlast h3 q; omega
        have hge : ((l[c - (pre.length + 1)]?).getD (0, 0)) = l[i] := by rw [show c - (pre.length + 1) = i by omega, List.getElem?_eq_getElem hil]; rfl
        have hs0n := (hcr.le _ (List.getElem_mem hil)).1
        have hbd : ∀ j, (hj : j < D'.length) → -1200000 ≤ D'[j] ∧ D'[j] ≤ 1200000 := fun j hj => by
          have hcn : ∀ j, j < D'.length → 0 ≤ preL D' (j + 1) ∧ preL D' (j + 1) ≤ 1100001 := fun j hj => by
            have h1 := hstr j hj
            have h2 := HT.out.cnt j (by omega)
            dsimp only at h1
            split at h1 <;> omega
          have h1 := preL_get hj
          have h2 := hcn j hj
          rcases Nat.eq_zero_or_pos j with q | q
          · have : preL D' j = 0 := by rw [q]; rfl
            omega
          · have h3 := hcn (j - 1) (by omega)
            rw [show j - 1 + 1 = j by omega] at h3
            omega
        have ebc : Y.cell? ⟨eb, 0, none⟩ = some (.int .i64 E) := by rw [cell_of_block hebb]; rfl
        have fze : Y.frozen? ⟨eb, 0, none⟩ = false := frozen_of_block hebb _
        have hgeb : g ≠ eb ∧ sb ≠ eb := by
          have := HEB.out; have := HSX.out; omega
        have hgc : ∃ cs t fr', Y.heap[g]? = some (.cells cs t fr') := by
          obtain ⟨cs, h⟩ := hsp.row.cells (q := g) rfl
          exact ⟨_, _, _, h⟩
        have hec : ∃ cs t fr', Y.heap[eb]? = some (.cells cs t fr') := ⟨_, _, _, hebb⟩
        have HT2 : Hid (∀ Z, Keeps (fun q => q = eb ∨ q = g) Y Z → KeepsFrom X5.heap.size Y Z ∧ KeptOn (BkOn bx ca) Y Z) := fun Z kZ => turned kZ hec hgc HNb.out.1 HNb.out.2
        subst hx
        have hlen2 : (pre ++ [(i, l[i])]).length = pre.length + 1 := by simp
        generalize hz : l[i]'hil = z at *
        obtain ⟨s0, s1⟩ := z
        dsimp only at hb hlE hval hs0n
        have e0 : Y.cell? ⟨b, 0, none⟩ = some (.int .i64 s0) := by rw [cell_of_block hb]; rfl
        have e1 : Y.cell? ⟨b, 1, none⟩ = some (.int .u64 s1) := by rw [cell_of_block hb]; rfl
        have hdl2 := hdl
        clear hb hz hnx hlast hl4 hcr
        by_cases hw : s1 = wd
        · have hwb : (s1 != wd) = false := by rw [hw]; simp
          by_cases hs : s0 ≤ (fr : Int)
          · have hmx2 : ∀ X : World, (Builtin.max_ #[3, 3] 3 #[.int .i64 s0, .int .i64 (fr : Int)]).run Tryz.prog X = .ok (.int .i64 (fr : Int)) X := fun X => by
              have : (if (fr : Int) > s0 then (fr : Int) else s0) = (fr : Int) := by split <;> omega
              simp [Builtin.max_, Builtin.max2, this]
            have HF : Hid (KeepsFrom X5.heap.size Y Y ∧ (Code.exit 1 = .exit 1 ∧ ∃ D', RXp X5 (w.heap.size + 1) fr n U sb g cap eb (fun j => preL D (j + 1)) l wd D' Y)) := ⟨(HT2.out Y (Keeps.refl _ _)).1, rfl, D', hsp, hdl, str_same hstr (fun nn h1 h2 => by rw [hval nn (by omega) h2]; exact hw) (by omega), kY⟩
            clear hsp hdl hstr hebb kY hval hbd hm0 hm1 hge HT2 hgc hec hw hlE hs
            gi_wp2
            exact ⟨HF.out.1, rfl, HF.out.2.2⟩
          · have hmx2 : ∀ X : World, (Builtin.max_ #[3, 3] 3 #[.int .i64 s0, .int .i64 (fr : Int)]).run Tryz.prog X = .ok (.int .i64 s0) X := fun X => by
              have : (if (fr : Int) > s0 then (fr : Int) else s0) = s0 := by split <;> omega
              simp [Builtin.max_, Builtin.max2, this]
            have hsb : (s0 == (fr : Int)) = false := by rw [beq_eq_false_iff_ne]; omega
            have kS := (Keeps.refl (fun q => q = eb) Y).setCell (p := ⟨eb, 0, none⟩) (.inr rfl) (.int .i64 s0)
            have kS2 : Keeps (fun q => q = eb ∨ q = g) Y (Y.setCell ⟨eb, 0, none⟩ (.int .i64 s0)) := kS.mono fun q _ e => .inl e
            have HF : Hid (KeepsFrom X5.heap.size Y (Y.setCell ⟨eb, 0, none⟩ (.int .i64 s0)) ∧ KeptOn (BkOn bx ca) Y (Y.setCell ⟨eb, 0, none⟩ (.int .i64 s0)) ∧ ∃ D' E, RIp X5 (w.heap.size + 1) fr n U sb g cap eb c (fun j => preL D (j + 1)) l wd (pre ++ [(i, (s0, s1))]).length D' E (Y.setCell ⟨eb, 0, none⟩ (.int .i64 s0))) := by
              refine ⟨(HT2.out _ kS2).1, (HT2.out _ kS2).2, D', s0, hsp.on kS hgeb.2 (fun q hq e => by simp only [Value.ownBlock, Option.some.injEq] at hq; omega), hdl, str_same hstr (fun nn h1 h2 => by rw [hval nn h1 h2]; exact hw) (by omega), block_set hebb 0 _, fun h => by rw [hlen2] at h; omega, fun _ => ⟨by omega, by rw [hlen2, hge]⟩, by rw [hlen2]; omega, kY.trans kS2⟩
            clear hsp hdl hstr hebb kY hval hbd hm0 hm1 hge HT2 hgc hec hw hlE hs kS kS2
            gi_wp2
            exact HF.out
        · have hwb : (s1 != wd) = true := by rw [bne_iff_ne]; exact hw
          obtain ⟨e, he⟩ : ∃ e : Nat, E = (fr : Int) + e := ⟨(E - fr).toNat, by omega⟩
          by_cases hs : s0 ≤ (fr : Int)
          · have hmx2 : ∀ X : World, (Builtin.max_ #[3, 3] 3 #[.int .i64 s0, .int .i64 (fr : Int)]).run Tryz.prog X = .ok (.int .i64 (fr : Int)) X := fun X => by
              have : (if (fr : Int) > s0 then (fr : Int) else s0) = (fr : Int) := by split <;> omega
              simp [Builtin.max_, Builtin.max2, this]
            have hbl : 0 < D'.length := by have := HU.out; omega
            have hel : e < D'.length := by have := HU.out; omega
            have hy2 : -1200001 ≤ ((D'.set 0 (D'[0] + 1))[e]?).getD 0 ∧ ((D'.set 0 (D'[0] + 1))[e]?).getD 0 ≤ 1200001 := by
              rw [List.getElem?_set_ne (by omega), List.getElem?_eq_getElem hel]
              have := hbd e hel
              simp only [Option.getD_some]; omega
            have hx2 := hbd 0 hbl
            have ST := strike_any (w.heap.size + 1) sb fr g (n + 2) cap D' 0 e (D'[0]) _ hbl hel rfl rfl ⟨by omega, by omega⟩ ⟨by omega, by omega⟩ (by have := HU.out; omega) (by have := HU.out; omega) Y hsp
            rw [← he] at ST
            rw [show (fr : Int) + ((0 : Nat) : Int) = (fr : Int) by omega] at ST
            clear hbl hel hy2 hx2
            have HF : Hid (∀ Z, SpAt Z (w.heap.size + 1) sb (fr : Int) (.slice (some ⟨g, 0, none⟩) (n + 2) cap) (strD D' 0 e) → Keeps (fun q => q = g) Y Z → KeepsFrom X5.heap.size Y Z ∧ (Code.exit 1 = .exit 1 ∧ ∃ D', RXp X5 (w.heap.size + 1) fr n U sb g cap eb (fun j => preL D (j + 1)) l wd D' Z)) := fun Z hz kz => by
              have kz2 : Keeps (fun q => q = eb ∨ q = g) Y Z := kz.mono fun q _ e => .inr e
              refine ⟨(HT2.out Z kz2).1, rfl, _, hz, by rw [strD_len]; exact hdl, ?_, kY.trans kz2⟩
              have h1 := str_strike (b := 0) (e := e) (by rw [← he]; exact hstr) (by have := HU.out; omega) (by have := HU.out; omega) (by omega) (by omega) (fun nn h1 h2 => by rw [hval nn (by omega) (by omega)]; exact hw)
              rw [show (fr : Int) + ((0 : Nat) : Int) = (fr : Int) by omega] at h1
              exact h1
            clear hsp hdl hstr hebb kY hval hbd hm0 hm1 hge HT2 hgc hec hw hlE hs he
            gi_wp2_with fail
            refine ⟨trivial, (CallsIn.inRound lp (callsIn_wide.2 ST)).mono ?_⟩
            rintro ex Z ⟨rfl, z1, z2⟩
            have c1' := cell_keep z2 c1 (by show ¬ w.heap.size = g; have := HG.out; omega)
            have HF2 := HF.out Z z1 z2
            clear ST HF c1 c2 c3 e0 e1 ebc fze z1 z2
            have HF3 : Hid _ := HF2
            clear HF2
            gi_wp2
            exact ⟨HF3.out.1, rfl, HF3.out.2.2⟩
          · have hmx2 : ∀ X : World, (Builtin.max_ #[3, 3] 3 #[.int .i64 s0, .int .i64 (fr : Int)]).run Tryz.prog X = .ok (.int .i64 s0) X := fun X => by
              have : (if (fr : Int) > s0 then (fr : Int) else s0) = s0 := by split <;> omega
              simp [Builtin.max_, Builtin.max2, this]
            have hsb : (s0 == (fr : Int)) = false := by rw [beq_eq_false_iff_ne]; omega
            obtain ⟨b', hb'⟩ : ∃ b' : Nat, s0 = (fr : Int) + b' := ⟨(s0 - fr).toNat, by omega⟩
            have hbl : b' < D'.length := by have := HU.out; omega
            have hel : e < D'.length := by have := HU.out; omega
            have hy2 : -1200001 ≤ ((D'.set b' (D'[b'] + 1))[e]?).getD 0 ∧ ((D'.set b' (D'[b'] + 1))[e]?).getD 0 ≤ 1200001 := by
              rw [List.getElem?_set_ne (by omega), List.getElem?_eq_getElem hel]
              have := hbd e hel
              simp only [Option.getD_some]; omega
            have hx2 := hbd b' hbl
            have ST := strike_any (w.heap.size + 1) sb fr g (n + 2) cap D' b' e (D'[b']) _ hbl hel rfl rfl ⟨by omega, by omega⟩ ⟨by omega, by omega⟩ (by have := HU.out; omega) (by have := HU.out; omega) Y hsp
            rw [← he] at ST
            rw [← hb'] at ST
            clear hbl hel hy2 hx2
            have HF : Hid (∀ Z, SpAt Z (w.heap.size + 1) sb (fr : Int) (.slice (some ⟨g, 0, none⟩) (n + 2) cap) (strD D' b' e) → Keeps (fun q => q = g) Y Z → KeepsFrom X5.heap.size Y (Z.setCell ⟨eb, 0, none⟩ (.int .i64 s0)) ∧ KeptOn (BkOn bx ca) Y (Z.setCell ⟨eb, 0, none⟩ (.int .i64 s0)) ∧ ∃ D' E, RIp X5 (w.heap.size + 1) fr n U sb g cap eb c (fun j => preL D (j + 1)) l wd (pre ++ [(i, (s0, s1))]).length D' E (Z.setCell ⟨eb, 0, none⟩ (.int .i64 s0))) := fun Z hz kz => by
              have kS := (Keeps.refl (fun q => q = eb) Z).setCell (p := ⟨eb, 0, none⟩) (.inr rfl) (.int .i64 s0)
              have kz2 : Keeps (fun q => q = eb ∨ q = g) Y (Z.setCell ⟨eb, 0, none⟩ (.int .i64 s0)) := (kz.mono fun q _ e => .inr e).trans (kS.mono fun q _ e => .inl e)
              refine ⟨(HT2.out _ kz2).1, (HT2.out _ kz2).2, strD D' b' e, s0, hz.on kS hgeb.2 (fun q hq e => by simp only [Value.ownBlock, Option.some.injEq] at hq; omega), by rw [strD_len]; exact hdl, ?_, block_set ((kz.block _ (lt_of_block hebb) (fun e => hgeb.1 e.symm)).trans hebb) 0 _, fun h => by rw [hlen2] at h; omega, fun _ => ⟨by omega, by rw [hlen2, hge]⟩, by rw [hlen2]; omega, kY.trans kz2⟩
              rw [hb']
              exact str_strike (by rw [← he]; exact hstr) (by have := HU.out; omega) (by have := HU.out; omega) (by omega) (by omega) (fun nn h1 h2 => by rw [hval nn (by omega) (by omega)]; exact hw)
            have HZ : Hid (∀ Z, Keeps (fun q => q = g) Y Z → Z.cell? ⟨w.heap.size, 0, none⟩ = some (.int .i64 (fr : Int)) ∧ Z.cell? ⟨eb, 0, none⟩ = some (.int .i64 E) ∧ Z.frozen? ⟨eb, 0, none⟩ = false) := fun Z kz => ⟨cell_keep kz c1 (by show ¬ w.heap.size = g; have := HG.out; omega), cell_keep kz ebc (by show ¬ eb = g; omega), frozen_of_block ((kz.block _ (lt_of_block hebb) (fun e => hgeb.1 e.symm)).trans hebb) _⟩
            clear hsp hdl hstr hebb kY hval hbd hm0 hm1 hge HT2 hgc hec hw hlE hs he hb'
            gi_wp2_with fail
            refine ⟨trivial, (CallsIn.inRound lp (callsIn_wide.2 ST)).mono ?_⟩
            rintro ex Z ⟨rfl, z1, z2⟩
            obtain ⟨d1, d2, d3⟩ := HZ.out Z z2
            have HF3 : Hid _ := HF.out Z z1 z2
            clear ST HF HZ c1 c2 c3 e0 e1 ebc fze z1 z2
            gi_wp2
            exact HF3.out
  · obtain rfl : k = ws.length := by omega
    have NB := numbers_any (w.heap.size + 1) sb fr _ D (n + 1) hT.dl (by have := HU.out; omega) (by have := HU.out; omega) (fun j hj => by have h1 := hT.cnt j (by rw [← hT.dl]; exact hj); omega) X hT.sp
    have hnt : numsD D fr (n + 1) = togL F W fr U ws := by
      have h1 := nums_tog (F := F) (W := W) (fr := fr) (up := U) (ws := ws) (D := D) (fun j hj => by
        have := hT.zero j (by have := HU.out; omega)
        rw [List.take_length] at this
        exact this)
      rw [show U + 1 - fr = n + 1 by have := HU.out; omega] at h1
      exact h1
    rw [hnt] at NB
    have HK : Hid (Keeps (fun _ => False) w X ∧ Marks ds X ∧ (∀ q, ({ target := .collected q, args := #[] } : Deferred) ∈ ds → w.heap.size ≤ q)) := ⟨hT.kp, hT.ma, hT.low⟩
    clear hT HT hnt
    gi_wp2_with fail
    refine ⟨trivial, (callsIn_wide.2 NB).mono ?_⟩
    rintro ex X2 ⟨u, rfl, hu, k2⟩
    clear NB
    gi_wp2_with fail
    refine leaves_marks ds _ (HK.out.2.1.keeps k2 (fun _ f => f.elim)) fun W' kW => ?_
    refine ⟨u, by simp [results, Tryz.f29, go_sem], u, rfl, ?_, (HK.out.1.trans k2).young kW HK.out.2.2⟩
    refine (hu.low HK.out.1.size).keeps kW fun q hq hm => ?_
    obtain ⟨cs, hb⟩ := hu.cells hq
    rw [(HK.out.2.1.keeps k2 (fun _ f => f.elim)).at hm] at hb
    cases hb
end Go.Proofs.YthmiainhaebjiaaGreatDoor
