
/- What a search keeps to; have; the last links in a block of the call's own (layer 22). No statement of the seat is proved here. -/
import Derived.Test.YtifmpiiaebnbiaaSkI
namespace Go.Proofs.Ytifmpiiaebnbiaa
open Go.RowKit

/-- What a search keeps to. -/
structure SrOk (s : Wd) (f : Nat) (r : (List Lk × Int) × Wd) : Prop where
  ok : r.2.Ok
  n8 : r.1.1.length = 8
  lk : ∀ l ∈ r.1.1, l.Ok
  len : r.2.L.length ≤ s.L.length + 2 * f
  w : r.2.W = s.W
theorem zeros_ok : ∀ l ∈ zeros, l.Ok := by
  intro l hl
  rw [(List.mem_replicate.1 hl).2]
  exact Lk.zero_ok
theorem sr_ok (p : Int → Bool) : ∀ (f : Nat) (la : List Lk) (base : Int) (lv n : Nat) (s : Wd), s.Ok → la.length = 8 → (∀ l ∈ la, l.Ok) → SrOk s f (sr p f la base lv n s)
  | 0, la, base, lv, n, s, hs, _, _ => ⟨hs, rfl, zeros_ok, by show s.L.length ≤ _; omega, rfl⟩
  | f + 1, la, base, lv, n, s, hs, h8, hla => by
    obtain ⟨⟨⟨l, e⟩, n', s'⟩, eq⟩ : ∃ r, s.fol n (uw (base + lv)) = r := ⟨_, rfl⟩
    have hf := fol_ok hs n (uw_isW (base + lv))
    rw [eq] at hf
    have hlen : s'.L.length ≤ s.L.length + 2 := hf.len
    have hw : s'.W = s.W := hf.w
    have hset : ∀ i, ∀ l' ∈ la.set i l, l'.Ok := by
      intro i l' hl'
      rcases List.mem_or_eq_of_mem_set hl' with q | q
      · exact hla l' q
      · rw [q]; exact hf.lk
    by_cases he : e = 0
    · subst he
      by_cases hp : l.t ≠ 0 ∧ p l.k = true
      · rw [sr_pass eq hp]
        have ih := sr_ok p f (la.set lv l) (uw (l.nd + 2)) lv n' s' hf.ok (by simpa using h8) (hset lv)
        exact ⟨ih.ok, ih.n8, ih.lk, by have := ih.len; omega, ih.w.trans hw⟩
      · cases lv with
        | zero =>
          rw [sr_end eq hp]
          exact ⟨hf.ok, by simpa using h8, hset 0, by show s'.L.length ≤ _; omega, hw⟩
        | succ m =>
          rw [sr_down eq hp]
          have ih := sr_ok p f (la.set (m + 1) l) base m n' s' hf.ok (by simpa using h8) (hset (m + 1))
          exact ⟨ih.ok, ih.n8, ih.lk, by have := ih.len; omega, ih.w.trans hw⟩
    · rw [sr_err eq he]
      exact ⟨hf.ok, rfl, zeros_ok, by show s'.L.length ≤ _; omega, hw⟩
theorem search_ok {s : Wd} (h : s.Ok) (p : Int → Bool) (at_ : Int) : SrOk s 65545 (s.search p at_) := sr_ok p FU zeros at_ 7 0 s h rfl zeros_ok
theorem SrOk.of {s s1 : Wd} {p : Int → Bool} {at_ e : Int} {la : List Lk} (h : s.Ok) (eq : s.search p at_ = ((la, e), s1)) : s1.Ok ∧ la.length = 8 ∧ (∀ l ∈ la, l.Ok) ∧ s1.L.length ≤ s.L.length + 131090 := by
  have q := search_ok h p at_
  rw [eq] at q
  exact ⟨q.ok, q.n8, q.lk, q.len⟩
theorem lk_ok {la : List Lk} (h : ∀ l ∈ la, l.Ok) (i : Nat) : (lk la i).Ok := by
  unfold lk
  cases e : la[i]? with
  | none => exact Lk.zero_ok
  | some l => exact h l (List.mem_of_getElem? e)
theorem Rm.search {s s1 : Wd} {p : Int → Bool} {at_ e : Int} {la : List Lk} {k : Nat} (h : Rm s (k + 131090)) (hok : s.Ok) (eq : s.search p at_ = ((la, e), s1)) : Rm s1 k := h.of (SrOk.of hok eq).2.2.2
/-- A load of a whole row, where its guard lets it. -/
theorem wpList_load_rowG {P : Program} {ops : Array Oper} {rest : List Oper} {o : Oper} {a : Act} {w : World} {Q : Exit → Act → World → Prop} (hw : Region.wanted o (yielded ops a.tmps) = true) (ty : TypeId) (x : Operand) (ho : o.op = .load ty x)
    (g : Nat) (hx : a.eval x = .pointer (some ⟨g, 0, none⟩)) (t : TypeId) (cs : Array Value) (fr : Nat × Nat) (d : TypeDesc) (hg : w.heap[g]? = some (.cells cs t fr))
    (hu : P.underlying ty = some d) (hd : (match d with | .struct _ | .array _ _ => true | _ => false) = true) (hi : (P.info? ty).map (·.size) = some cs.size)
    (h : wpList P ops Q rest (a.put o.dst (.agg cs)) w) : wpList P ops Q (o :: rest) a w := by
  unfold wpList
  rw [if_pos hw]
  exact .inl (wp_load_row ty x ho g hx t cs fr d hg hu hd hi h)
set_option maxHeartbeats 1000000 in
theorem have_any (la : List Lk) (h8 : la.length = 8) (x : Int) (w : World) : Calls Try.prog 46 #[lasV la, .int .u64 x] w fun e w' => e = .returned (.bool (haveB la x)) ∧ Keeps (fun _ => False) w w' := by
  obtain ⟨⟨l1, l2, l3⟩, ⟨a1, a2, a3⟩, ⟨b1, b2, b3⟩, ⟨c1, c2, c3⟩, ⟨d1, d2, d3⟩, ⟨e1, e2, e3⟩, ⟨f1, f2, f3⟩, ⟨g1, g2, g3⟩, rfl⟩ := eight h8
  have hv : haveB [⟨l1, l2, l3⟩, ⟨a1, a2, a3⟩, ⟨b1, b2, b3⟩, ⟨c1, c2, c3⟩, ⟨d1, d2, d3⟩, ⟨e1, e2, e3⟩, ⟨f1, f2, f3⟩, ⟨g1, g2, g3⟩] x = ((l2 != 0) && decide (l3 = x)) := rfl
  rw [hv]
  have hl : lasV [⟨l1, l2, l3⟩, ⟨a1, a2, a3⟩, ⟨b1, b2, b3⟩, ⟨c1, c2, c3⟩, ⟨d1, d2, d3⟩, ⟨e1, e2, e3⟩, ⟨f1, f2, f3⟩, ⟨g1, g2, g3⟩] = .agg #[.int .u64 l1, .int .u64 l2, .int .u64 l3, .int .u64 a1, .int .u64 a2, .int .u64 a3, .int .u64 b1, .int .u64 b2, .int .u64 b3, .int .u64 c1, .int .u64 c2, .int .u64 c3, .int .u64 d1, .int .u64 d2, .int .u64 d3, .int .u64 e1, .int .u64 e2, .int .u64 e3, .int .u64 f1, .int .u64 f2, .int .u64 f3, .int .u64 g1, .int .u64 g2, .int .u64 g3] := rfl
  rw [hl]
  clear hv hl h8
  by_cases hz : l2 = 0
  · subst hz
    go_enter Try.func46, Try.ntmps46
    go_wp2_with fail
    refine (leads_any ⟨l1, 0, l3⟩ _).mono ?_
    rintro e_ w1 ⟨rfl, k1⟩
    have K1 := hid ((keeps_new w _).trans k1)
    clear k1
    unfold Lk.leads
    go_wp2_with fail
    go_ret
    exact ⟨by simp, K1.out⟩
  · have hzb : (l2 != 0) = true := by simpa using hz
    rw [hzb]
    go_enter Try.func46, Try.ntmps46
    go_wp2_with fail
    refine (leads_any ⟨l1, l2, l3⟩ _).mono ?_
    rintro e_ w1 ⟨rfl, k1⟩
    have K1 := hid ((keeps_new w _).trans k1)
    have hb := (k1.block w.heap.size (by simp) (fun f => f)).trans (alloc_block w _)
    have q2 : w1.cell? ⟨w.heap.size, 2, none⟩ = some (.int .u64 l3) := by rw [cell_of_block hb]; rfl
    clear k1 hb
    unfold Lk.leads
    simp only [hzb]
    go_wp2_with fail
    go_ret
    exact ⟨by by_cases hq : l3 = x <;> simp [hq], K1.out⟩
/-- The last links, laid in a new block. -/
theorem las_new {T : TypeId} {w X : World} {b g c : Nat} {s : Wd} (h : Hs T w b g c X s) (la : List Lk) : Hs T w b g c ((X.alloc (lasO zeros)).setRow X.heap.size (lcs la)) s ∧ Lo ((X.alloc (lasO zeros)).setRow X.heap.size (lcs la)) b g X.heap.size (lasO la) := by
  have h1 := h.new (keeps_new X (lasO zeros))
  have l1 := Lo.new h.wd (lasO zeros)
  have ks := setRow_keeps (X.alloc (lasO zeros)) X.heap.size (lcs la)
  refine ⟨h1.step ks (fun i e => by subst e; exact ⟨h.k.k.size, l1.no⟩), setRow_at l1.at_ _, fun e => l1.no ?_⟩
  exact (own_kept h1.wd.ltb ks (fun i hi e => by subst e; exact l1.no hi) _).1 e
end Go.Proofs.Ytifmpiiaebnbiaa
