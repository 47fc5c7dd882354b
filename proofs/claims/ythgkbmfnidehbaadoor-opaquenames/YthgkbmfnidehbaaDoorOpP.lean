
/- Attempts and blocks of one history; a past as it lies; how many commits stand ahead. No statement of the seat is proved here. -/
import Derived.Test.YthgkbmfnidehbaaDoorOpO
import Derived.Test.YthgkbmfnidehbaaDoorEvDa
namespace Go.Proofs.YthgkbmfnidehbaaDoor
open Go.RowKit Go.Shelf

theorem rel_tp : ∀ (h : List Ev) (t : Ty) (p : Pt) (k : Nat), t.th = p.th → t.fi = p.fi → t.la = p.la → (tryG t h k).th = (blkG p h k).th ∧ (tryG t h k).fi = (blkG p h k).fi ∧ (tryG t h k).la = (blkG p h k).la
  | [], _, _, _, h1, h2, h3 => ⟨h1, h2, h3⟩
  | e :: h, t, p, k, h1, h2, h3 => by
    rw [tryG, blkG, h1]
    by_cases q : e.th ≠ p.th
    · rw [if_pos q, if_pos q]; exact rel_tp h t p _ h1 h2 h3
    · rw [if_neg q, if_neg q]
      by_cases r : endB e.kd = true
      · rw [if_pos r, if_pos r]
        exact ⟨by rw [noteP_th]; exact h1, by rw [noteP_fi]; exact h2, by rw [noteP_la]; rfl⟩
      · rw [if_neg r, if_neg r]
        exact rel_tp h _ _ _ (by rw [noteP_th]; exact h1) (by rw [noteP_fi]; exact h2) (by rw [noteP_la]; rfl)
def key3 (p : Pt) : Int × Int × Int := (p.th, p.fi, p.la)
def key3T (t : Ty) : Int × Int × Int := (t.th, t.fi, t.la)
theorem begs_rel : ∀ (h : List Ev) (k : Nat), (begs h k).map key3T = (begP h k).map key3
  | [], _ => rfl
  | e :: h, k => by
    rw [begs, begP]
    by_cases q : e.kd = 1
    · rw [if_pos q, if_pos q, List.map_cons, List.map_cons, begs_rel h]
      obtain ⟨a, b, c⟩ := rel_tp h (newT e k) (newP e k) (k + 1) (newP_th e k).symm (by rw [show (newP e k).fi = k from noteP_fi _ _ _]; rfl) (by rw [show (newP e k).la = k from noteP_la _ _ _]; rfl)
      unfold key3 key3T
      rw [a, b, c]
    · rw [if_neg q, if_neg q]; exact begs_rel h _
theorem begP_le : ∀ (h : List Ev) (k : Nat), ∀ p ∈ begP h k, p.fi ≤ p.la
  | [], _, p, hp => by simp [begP] at hp
  | e :: h, k, p, hp => by
    rw [begP] at hp
    by_cases q : e.kd = 1
    · rw [if_pos q] at hp
      rcases List.mem_cons.1 hp with rfl | hp
      · rw [blkG_fi]
        have h1 : (newP e k).fi = k := noteP_fi _ _ _
        have h2 : (newP e k).la = k := noteP_la _ _ _
        rcases blkG_la h (newP e k) (k + 1) with q | q
        · rw [q]; omega
        · omega
      · exact begP_le h _ p hp
    · rw [if_neg q] at hp; exact begP_le h _ p hp
/-- Attempts and blocks go together. -/
theorem tries_parts {L : List Ev} (hz : (checkL L).2 = 0) : (triesL L).map key3T = (partsL L).map key3 := by
  rw [tries_begs hz, parts_begs hz]; exact begs_rel L 0
theorem tries_le {L : List Ev} (hz : (checkL L).2 = 0) : ∀ t ∈ triesL L, t.fi ≤ t.la := fun t ht => by
  have h1 : key3T t ∈ (partsL L).map key3 := by rw [← tries_parts hz]; exact List.mem_map.2 ⟨t, ht, rfl⟩
  obtain ⟨p, hp, e⟩ := List.mem_map.1 h1
  have h2 := begP_le L 0 p (by rw [← parts_begs hz]; exact hp)
  unfold key3 key3T at e
  injection e with _ e
  injection e with e1 e2
  omega
/-- How many writing commits stand ahead of a place. -/
def cntL (W : List Pt) (t : Int) : Nat := W.countP (fun p => decide (p.la < t))
theorem cntL_at {W : List Pt} {t : Int} {c : Nat} (hc : c ≤ W.length) (h1 : ∀ j (hj : j < W.length), j < c → (W[j]).la < t) (h2 : ∀ j (hj : j < W.length), c ≤ j → t ≤ (W[j]).la) : cntL W t = c := by
  unfold cntL
  rw [← List.take_append_drop c W, List.countP_append]
  have e1 : (W.take c).countP (fun p => decide (p.la < t)) = c := by
    have : (W.take c).countP (fun p => decide (p.la < t)) = (W.take c).length := by
      rw [List.countP_eq_length]
      intro p hp
      obtain ⟨j, hj, rfl⟩ := List.getElem_of_mem hp
      rw [List.length_take] at hj
      rw [List.getElem_take, decide_eq_true_eq]
      exact h1 j (by omega) (by omega)
    rw [this, List.length_take]; omega
  have e2 : (W.drop c).countP (fun p => decide (p.la < t)) = 0 := by
    rw [List.countP_eq_zero]
    intro p hp
    obtain ⟨j, hj, rfl⟩ := List.getElem_of_mem hp
    rw [List.length_drop] at hj
    rw [List.getElem_drop, decide_eq_true_eq]
    have := h2 (c + j) (by omega) (by omega)
    omega
  rw [e1, e2, Nat.add_zero]
theorem cntL_le (W : List Pt) (t : Int) : cntL W t ≤ W.length := List.countP_le_length
theorem cntL_mono (W : List Pt) {t u : Int} (h : t ≤ u) : cntL W t ≤ cntL W u := by
  unfold cntL
  apply List.countP_mono_left
  intro p _ hp
  rw [decide_eq_true_eq] at hp ⊢
  omega
/-- What is said of an attempt. -/
structure Sg where
  t : Ty
  fr : Int
  up : Int
  at_ : Int
@[reducible] def Sg.cl (s : Sg) : List Value := [.int .i64 s.t.th, .int .i64 s.t.fi, .int .i64 s.t.la, .int .u64 s.t.sn, .int .i64 s.t.how, .int .i64 s.t.rd, .int .i64 s.t.wr, .int .i64 s.fr, .int .i64 s.up, .int .i64 s.at_]
theorem sg_len (s : Sg) : s.cl.length = 10 := rfl
theorem sg_ne (s : Sg) : s.cl ≠ [] := by simp
theorem sg_one (s : Sg) : ∀ u ∈ s.cl, u.oneCell' = true := by
  intro u hu
  simp at hu
  rcases hu with rfl | rfl | rfl | rfl | rfl | rfl | rfl | rfl | rfl | rfl <;> rfl
theorem info_sg : (Tryd.prog.info? 46).map (fun i => (i.zero, i.size, i.bytes)) = some (some (.agg #[.int .i64 0, .int .i64 0, .int .i64 0, .int .u64 0, .int .i64 0, .int .i64 0, .int .i64 0, .int .i64 0, .int .i64 0, .int .i64 0]), 10, 80) := by kernel_rfl
abbrev SR (w : World) (base : Nat) (v : Value) (L : List Sg) : Prop := OwnR Sg.cl 10 46 w base v L
def lastT (l : List Int) : Int := (l.getLast?).getD (-1)
def sgOf (F : List Int) (W : List Pt) (t : Ty) (rs : List (Int × Int)) : Sg := ⟨t, cntL W t.fi, cntL W (t.la + 1), lastT (togL F W (cntL W t.fi) (cntL W (t.la + 1)) rs)⟩
def sgK (F : List Int) (W : List Pt) (T : List Ty) (P : List Pt) (k : Nat) : List Sg := (List.range k).map fun j => sgOf F W ((T[j]?).getD ty0) ((P[j]?).getD pt0).rs
theorem sgK_len (F : List Int) (W : List Pt) (T : List Ty) (P : List Pt) (k : Nat) : (sgK F W T P k).length = k := by simp [sgK]
theorem sgK_succ (F : List Int) (W : List Pt) (T : List Ty) (P : List Pt) (k : Nat) (h1 : k < T.length) (h2 : k < P.length) : sgK F W T P (k + 1) = sgK F W T P k ++ [sgOf F W (T[k]) (P[k]).rs] := by
  unfold sgK
  rw [List.range_succ, List.map_append]
  simp [h1, h2]
/-- A past as it lies. -/
structure PaAt (w : World) (pb mb b2 : Nat) (vF vT vB vW : Value) (F : List Int) (T : List Ty) (X Y : List Bx) (f : Int → Option Sl) : Prop where
  blk : w.heap[pb]? = some (pastC vF vT vB vW mb)
  ws : WsAt w vF F
  tr : ElsAt Ty.cl 7 w vT T
  bl : ElsAt Bx.cb 9 w vB X
  rd : ∀ x ∈ X, ElsAt enC 3 w x.r.v x.p.rs
  wt : ∀ x ∈ X, ElsAt enC 3 w x.s.v x.p.ws
  wr : ElsAt Bx.cb 9 w vW Y
  st : StAt w mb b2 f (setN F (Y.map (·.p)) Y.length)
/-- What is known of it. -/
structure PuA (F : List Int) (T : List Ty) (X Y : List Bx) : Prop where
  up : Y.Pairwise (fun p q => p.p.la < q.p.la)
  perm : Y.Perm (X.filter fun x => x.p.wr)
  xl : X.length ≤ 1050000
  tl : T.length = X.length
  inr : ∀ x ∈ X, (∀ e ∈ x.p.rs, 0 ≤ e.1 ∧ e.1 < (F.length : Int)) ∧ (∀ e ∈ x.p.ws, 0 ≤ e.1 ∧ e.1 < (F.length : Int))
  rl : ∀ x ∈ X, x.p.rs.length ≤ 1050000 ∧ x.p.ws.length ≤ 1050000
  fl : F.length ≤ 65536
  tle : ∀ t ∈ T, t.fi ≤ t.la ∧ 0 ≤ t.fi ∧ t.la < 1100000
theorem PuA.yX {F : List Int} {T : List Ty} {X Y : List Bx} (h : PuA F T X Y) {y : Bx} (hy : y ∈ Y) : y ∈ X := (List.mem_filter.1 (h.perm.mem_iff.1 hy)).1
theorem PuA.yl {F : List Int} {T : List Ty} {X Y : List Bx} (h : PuA F T X Y) : Y.length ≤ 1050000 := by
  have := h.perm.length_eq
  have := List.length_filter_le (fun x : Bx => x.p.wr) X
  have := h.xl
  omega
theorem PaAt.keeps {w w' : World} {pb mb b2 : Nat} {vF vT vB vW : Value} {F : List Int} {T : List Ty} {X Y : List Bx} {f : Int → Option Sl} (h : PaAt w pb mb b2 vF vT vB vW F T X Y f) (k : Keeps (fun _ => False) w w') : PaAt w' pb mb b2 vF vT vB vW F T X Y f :=
  ⟨(k.block pb (lt_of_block h.blk) (fun f => f)).trans h.blk, h.ws.keeps wC_ne k, h.tr.keeps ty_ne k, h.bl.keeps cb_ne k, fun x hx => (h.rd x hx).keeps en_ne k, fun x hx => (h.wt x hx).keeps en_ne k, h.wr.keeps cb_ne k, h.st.keeps k (fun f => f) (fun _ _ _ f => f)⟩
theorem PaAt.pa {w : World} {pb mb b2 : Nat} {vF vT vB vW : Value} {F : List Int} {T : List Ty} {X Y : List Bx} {f : Int → Option Sl} (h : PaAt w pb mb b2 vF vT vB vW F T X Y f) (u : PuA F T X Y) : PA w pb mb b2 vF F f (Y.map (·.p)) := by
  refine ⟨by rw [cell_of_block h.blk]; rfl, by rw [cell_of_block h.blk]; rfl, h.ws, by rw [List.length_map]; exact h.st, ?_, by rw [List.length_map]; exact u.yl⟩
  refine sinv_all (fun p hp e he => ?_) _ (Nat.le_refl _)
  obtain ⟨y, hy, rfl⟩ := List.mem_map.1 hp
  exact (u.inr y (u.yX hy)).2 e he
theorem ahead_cnt (pb : Nat) (v : Value) (Y : List Bx) (t : Int) (hl : Y.length ≤ 1100000) (hs : Y.Pairwise (fun p q => p.p.la < q.p.la)) (w : World) (c3 : w.cell? ⟨pb, 3, none⟩ = some v) (h : ElsAt Bx.cb 9 w v Y) : Calls Tryd.prog 20 #[.pointer (some ⟨pb, 0, none⟩), .int .i64 t] w fun ex w' => ex = .returned (.int .i64 (cntL (Y.map (·.p)) t : Int)) ∧ Keeps (fun _ => False) w w' := by
  refine (oahead_any pb v Y t hl hs w c3 h).mono ?_
  rintro ex w' ⟨c, rfl, h1, h2, h3, k⟩
  have : cntL (Y.map (·.p)) t = c := cntL_at (by simpa using h1) (fun j hj q => by rw [List.getElem_map]; exact h2 j (by simpa using hj) q) (fun j hj q => by rw [List.getElem_map]; exact h3 j (by simpa using hj) q)
  rw [this]
  exact ⟨rfl, k⟩
end Go.Proofs.YthgkbmfnidehbaaDoor
