
/- Pure (layer 23): queues in a room; what New, Put, Take and Drop do to them. No statement of the seat is proved here. -/
import Derived.Test.YtadbplbifjeghaaQxA
namespace Go.Proofs.Ytadbplbifjeghaa
open Go.RowKit

/-- A queue: where it is, its nodes. -/
structure Qu where
  a : Int
  ns : List Int
def Qu.ws (W : List Int) (q : Qu) : List Int := q.ns.map fun n => oat W n.toNat
def pcq (q : Qu) : List (Int × Int) := (q.a, 3) :: q.ns.map fun n => (n, 2)
def allP (Q : List Qu) : List (Int × Int) := Q.flatMap pcq
def inP (P : List (Int × Int)) (c : Int) : Prop := ∃ p ∈ P, p.1 ≤ c ∧ c < p.1 + p.2
/-- What holds of a block that is not refused. -/
structure Gd (s : Wd) (K : Int) : Prop where
  lk : Lk s K
  ok : s.Ok
theorem Gd.more {s : Wd} {K K' : Int} (h : Gd s K) (hk : K ≤ K') (hK : K' < 4611686018427387904) : Gd s K' := ⟨h.lk.more hk hK, h.ok⟩

theorem Rm.perm {s : Wd} {fr to : Int} {O O' : List (Int × Int)} {bk : Nat → List Int} (h : Rm s fr to O bk) (p : O.Perm O') : Rm s fr to O' bk :=
  ⟨h.len, h.fr0, h.to1, h.w1, h.nx0, h.nx1, fun q hq => h.oin q (p.mem_iff.2 hq), h.bin, (p.pairwise_iff (fun h => h.symm)).1 h.oo, fun q hq => h.ob q (p.mem_iff.2 hq), h.bs, h.bb, h.ch⟩
theorem Rm.same {s s' : Wd} {fr to : Int} {O : List (Int × Int)} {bk : Nat → List Int} (h : Rm s fr to O bk) (e : s'.W = s.W) : Rm s' fr to O bk := by
  obtain ⟨h1, h2, h3, h4, h5, h6, h7, h8, h9, h10, h11, h12, h13⟩ := h
  exact ⟨by rw [e]; exact h1, h2, h3, by rw [e]; exact h4, by rw [e]; exact h5, by rw [e]; exact h6, by rw [e]; exact h7, by rw [e]; exact h8, h9, h10, h11, h12, by rw [e]; exact h13⟩
theorem Rm.inb {s : Wd} {fr to : Int} {O : List (Int × Int)} {bk : Nat → List Int} (h : Rm s fr to O bk) {a n : Int} (hp : (a, n) ∈ O) : 18 ≤ a ∧ 1 ≤ n ∧ a + n ≤ to ∧ to ≤ 1000 ∧ (s.W.length : Int) = to := by
  have q := h.oin _ hp
  have q1 := h.fr0
  have q2 := h.nx1
  have q3 := q.2.1.1
  dsimp only at q q3
  exact ⟨by omega, q3, by omega, h.to1, h.len⟩

/-- Two rooms alike take alike. -/
theorem took_both {s r : Wd} {N K : Int} {O : List (Int × Int)} {bk : Nat → List Int} (hs : Rm s 18 N O bk) (hr : Rm r 18 N O bk) (hn : nx s = nx r) (gs : Gd s K) (gr : Gd r K) (hK : K + 4 < 4611686018427387904) (n : Nat) (hn1 : 1 ≤ n) (hn2 : n ≤ 16) :
    (∃ s' r', s.take 0 n = ((0, 9), s') ∧ r.take 0 n = ((0, 9), r') ∧ s'.W = s.W ∧ r'.W = r.W ∧ Gd s' (K + 4) ∧ Gd r' (K + 4) ∧ N - nx s < n) ∨
    (∃ a bk' s' r', s.take 0 n = ((a, 0), s') ∧ r.take 0 n = ((a, 0), r') ∧ Rm s' 18 N ((a, (n : Int)) :: O) bk' ∧ Rm r' 18 N ((a, (n : Int)) :: O) bk' ∧ nx s' = nx r' ∧ (∀ c, 18 ≤ c → oat s'.W c = oat s.W c) ∧ s'.W.length = s.W.length ∧ Gd s' (K + 4) ∧ Gd r' (K + 4) ∧ nx s' ≤ nx s + n) := by
  have lsd : ∀ (k : Nat) (x : Wd), k ≤ 4 → Lk x (K + k) → Lk x (K + 4) := fun k x hk h => h.more (by omega) hK
  have d1 : ∀ x : Wd, Lk x K → Lk x.dec (K + 1) := fun x h => h.dec (by omega)
  have d3 : ∀ x : Wd, Lk x K → Lk x.dec.dec.dec (K + 1 + 1 + 1) := fun x h => ((h.dec (by omega)).dec (by omega)).dec (by omega)
  have d4 : ∀ x : Wd, Lk x K → Lk x.dec.dec.dec.dec (K + 1 + 1 + 1 + 1) := fun x h => (d3 x h).dec (by omega)
  have wN : ∀ x : Wd, Rm x 18 N O bk → 18 ≤ nx x ∧ nx x ≤ 1000 := fun x h => ⟨h.nx0, by have := h.nx1; have := h.to1; unfold nx; omega⟩
  have okset : ∀ (x : Wd) (l c m : Int) (i : Nat) (y : Int), x.Ok → isW y → (⟨x.W.set i y, l, c, m⟩ : Wd).Ok := fun x l c m i y h hy => ⟨fun z hz => by
    rcases List.mem_or_eq_of_mem_set hz with h1 | h1
    · exact h.1 z h1
    · rw [h1]; exact hy, by show (x.W.set i y).length ≤ _; rw [List.length_set]; exact h.2⟩
  rcases List.eq_nil_or_concat (bk n) with he | ⟨rr, a, he⟩
  · by_cases hl : N - nx s < n
    · refine .inl ⟨_, _, hs.take_no gs.lk (by omega) n hn1 hn2 he hl, hr.take_no gr.lk (by omega) n hn1 hn2 he (by rw [← hn]; exact hl), rfl, rfl, ⟨(d3 s gs.lk).more (by omega) hK, gs.ok⟩, ⟨(d3 r gr.lk).more (by omega) hK, gr.ok⟩, hl⟩
    · have t1 := hs.take_new gs.lk (by omega) n hn1 hn2 he (by omega)
      have t2 := hr.take_new gr.lk (by omega) n hn1 hn2 he (by omega)
      have m1 := (hs.took_new n hn1 hn2 (by omega) (ud s.dec.dec.dec.dec (s.W.set 0 (nx s + n))) rfl).1
      have m2 := (hr.took_new n hn1 hn2 (by omega) (ud r.dec.dec.dec.dec (r.W.set 0 (nx r + n))) rfl).1
      rw [← hn] at t2 m2
      have b1 := wN s hs
      refine .inr ⟨nx s, bk, _, _, t1, t2, m1.perm (List.perm_append_singleton _ _), m2.perm (List.perm_append_singleton _ _), ?_, fun c hc => oat_ne (by omega), by show (s.W.set 0 _).length = _; rw [List.length_set], ⟨((d4 s gs.lk).ud _).more (by omega) hK, okset s _ _ _ _ _ gs.ok ⟨by omega, by omega⟩⟩, ⟨((d4 r gr.lk).ud _).more (by omega) hK, okset r _ _ _ _ _ gr.ok ⟨by omega, by omega⟩⟩, by
        show oat (s.W.set 0 _) 0 ≤ _
        rw [oat_eq (by have := hs.len; have := hs.to18; omega)]
        exact Int.le_refl _⟩
      show oat (s.W.set 0 _) 0 = oat (r.W.set 0 _) 0
      rw [oat_eq (by have := hs.len; have := hs.to18; omega), oat_eq (by have := hr.len; have := hr.to18; omega)]
  · rw [List.concat_eq_append] at he
    have t1 := hs.take_old gs.lk (by omega) n hn1 hn2 a rr he
    have t2 := hr.take_old gr.lk (by omega) n hn1 hn2 a rr he
    have m1 := (hs.took_old n hn1 hn2 a rr he (ud s.dec.dec.dec (s.W.set (1 + n) (oat s.W a.toNat))) rfl).1
    have m2 := (hr.took_old n hn1 hn2 a rr he (ud r.dec.dec.dec (r.W.set (1 + n) (oat r.W a.toNat))) rfl).1
    refine .inr ⟨a, updL bk n rr, _, _, t1, t2, m1.perm (List.perm_append_singleton _ _), m2.perm (List.perm_append_singleton _ _), ?_, fun c hc => oat_ne (by omega), by show (s.W.set _ _).length = _; rw [List.length_set], ⟨((d3 s gs.lk).ud _).more (by omega) hK, okset s _ _ _ _ _ gs.ok (oat_isW gs.ok.1 _)⟩, ⟨((d3 r gr.lk).ud _).more (by omega) hK, okset r _ _ _ _ _ gr.ok (oat_isW gr.ok.1 _)⟩, by
      show oat (s.W.set _ _) 0 ≤ oat s.W 0 + n
      rw [oat_ne (by omega)]
      omega⟩
    show oat (s.W.set _ _) 0 = oat (r.W.set _ _) 0
    rw [oat_ne (by omega), oat_ne (by omega)]
    exact hn

/-- A piece is given back. -/
theorem gave_one {s : Wd} {N K : Int} {O O' : List (Int × Int)} {bk : Nat → List Int} (hs : Rm s 18 N O bk) (gs : Gd s K) (hK : K + 4 < 4611686018427387904) (n : Nat) (hn1 : 1 ≤ n) (hn2 : n ≤ 16) (a : Int) (hp : O.Perm ((a, (n : Int)) :: O')) :
    ∃ s', s.give 0 a n = (0, s') ∧ Rm s' 18 N O' (updL bk n (bk n ++ [a])) ∧ nx s' = nx s ∧ (∀ c, 18 ≤ c → c ≠ a.toNat → oat s'.W c = oat s.W c) ∧ s'.W.length = s.W.length ∧ Gd s' (K + 4) := by
  have h2 := hs.perm hp
  have b := h2.inb (List.mem_cons_self)
  have t := h2.give_ok gs.lk (by omega) n hn1 hn2 a List.mem_cons_self
  have m := h2.gave n hn1 hn2 a 0 rfl (ud s.dec.dec.dec ((s.W.set a.toNat (oat s.W (1 + n))).set (1 + n) (a + 1))) rfl
  refine ⟨_, t, m, ?_, fun c hc hca => ?_, by show ((s.W.set _ _).set _ _).length = _; rw [List.length_set, List.length_set], ⟨(((((gs.lk.dec (by omega)).dec (by omega)).dec (by omega))).ud _).more (by omega) hK, ⟨fun z hz => ?_, by show ((s.W.set _ _).set _ _).length ≤ _; rw [List.length_set, List.length_set]; exact gs.ok.2⟩⟩⟩
  · show oat ((s.W.set _ _).set _ _) 0 = oat s.W 0
    rw [oat_ne (by omega), oat_ne (by omega)]
  · show oat ((s.W.set _ _).set _ _) c = oat s.W c
    rw [oat_ne (by omega), oat_ne (by omega)]
  · rcases List.mem_or_eq_of_mem_set hz with h1 | h1
    · rcases List.mem_or_eq_of_mem_set h1 with h1 | h1
      · exact gs.ok.1 z h1
      · rw [h1]; exact oat_isW gs.ok.1 _
    · rw [h1]; exact ⟨by omega, by omega⟩
/-- A word is put into a piece that is out. -/
theorem put_out {s : Wd} {N K : Int} {O : List (Int × Int)} {bk : Nat → List Int} (hs : Rm s 18 N O bk) (gs : Gd s K) (hK : K + 1 < 4611686018427387904) {a n c x : Int} (hp : (a, n) ∈ O) (h1 : a ≤ c) (h2 : c < a + n) (hx : isW x) :
    ∃ s', s.put c x = (0, s') ∧ s'.W = s.W.set c.toNat x ∧ Rm s' 18 N O bk ∧ Gd s' (K + 1) := by
  have b := hs.inb hp
  have p := put_in (a := c) (x := x) gs.lk (by omega) (by omega)
  refine ⟨_, p, rfl, (hs.write hp h1 h2 (x := x)).same rfl, ⟨gs.lk.dec hK, ⟨fun z hz => ?_, by show (s.W.set _ _).length ≤ _; rw [List.length_set]; exact gs.ok.2⟩⟩⟩
  rcases List.mem_or_eq_of_mem_set hz with h3 | h3
  · exact gs.ok.1 z h3
  · rw [h3]; exact hx
theorem get_out' {s : Wd} {N K : Int} {O : List (Int × Int)} {bk : Nat → List Int} (hs : Rm s 18 N O bk) (gs : Gd s K) (hK : K + 1 < 4611686018427387904) {a n c : Int} (hp : (a, n) ∈ O) (h1 : a ≤ c) (h2 : c < a + n) :
    ∃ s', s.get c = ((oat s.W c.toNat, 0), s') ∧ s'.W = s.W ∧ Rm s' 18 N O bk ∧ Gd s' (K + 1) := by
  have b := hs.inb hp
  exact ⟨_, get_in (a := c) gs.lk (by omega) (by omega), rfl, hs.same rfl, ⟨gs.lk.dec hK, gs.ok⟩⟩
/-- What a queue is hangs on its own cells alone. -/
theorem lk_same {W W' : List Int} (hl : W'.length = W.length) : ∀ {to : Int} {ns : List Int}, (∀ n ∈ ns, oat W' (n + 1).toNat = oat W (n + 1).toNat) → lk W to ns → lk W' to ns
  | _, [], _, h => h
  | _, n :: ns, hc, h => ⟨h.1, h.2.1, by rw [hl]; exact h.2.2.1, by rw [hc n List.mem_cons_self]; exact lk_same hl (fun m hm => hc m (List.mem_cons_of_mem _ hm)) h.2.2.2⟩
theorem inP_q {q : Qu} {c : Int} (h1 : q.a ≤ c) (h2 : c < q.a + 3) : inP (pcq q) c := ⟨_, List.mem_cons_self, h1, h2⟩
theorem inP_n {q : Qu} {n c : Int} (hn : n ∈ q.ns) (h1 : n ≤ c) (h2 : c < n + 2) : inP (pcq q) c := ⟨(n, 2), List.mem_cons_of_mem _ (List.mem_map.2 ⟨n, hn, rfl⟩), h1, h2⟩
theorem wh_same {W W' : List Int} (hl : W'.length = W.length) {q : Qu} (hc : ∀ c, inP (pcq q) c → oat W' c.toNat = oat W c.toNat) (h : Wh W q.a q.ns) : Wh W' q.a q.ns := by
  obtain ⟨h1, h2, h3, h4, h5, h6⟩ := h
  refine ⟨h1, by rw [hl]; exact h2, by rw [hc _ (inP_q (by omega) (by omega))]; exact h3, h4, ?_, by rw [hc _ (inP_q (by omega) (by omega))]; exact h6⟩
  rw [hc _ (inP_q (by omega) (by omega))]
  exact lk_same hl (fun n hn => hc _ (inP_n hn (by omega) (by omega))) h5
theorem ws_same {W W' : List Int} {q : Qu} (hc : ∀ c, inP (pcq q) c → oat W' c.toNat = oat W c.toNat) : q.ws W' = q.ws W := by
  unfold Qu.ws
  exact List.map_congr_left fun n hn => hc n (inP_n hn (by omega) (by omega))
end Go.Proofs.Ytadbplbifjeghaa
