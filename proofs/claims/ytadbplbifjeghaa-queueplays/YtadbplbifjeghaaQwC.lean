
/- The document's Whole and Words (layer 23). No statement of the seat is proved here. -/
import Derived.Test.YtadbplbifjeghaaQwB
namespace Go.Proofs.Ytadbplbifjeghaa
open Go.RowKit

/-- The word of the last of some nodes. -/
def lastR (l : List Int) : Int := if l.length = 0 then 0 else uw (oat l (l.length - 1) + 1)
theorem lastR_of {W : List Int} (hWl : W.length ≤ 17592186044416) : ∀ {to a : Int} {n : Int} {ns : List Int}, lk W to (n :: ns) → lastR (n :: ns) = lastL a (n :: ns)
  | to, a, n, [], h => by
    have h1 := h.2.1
    have h2 := h.2.2.1
    exact uw_of (by show 0 ≤ n + 1; omega) (by show n + 1 < _; omega)
  | to, a, n, k :: ns, h => by
    have q := lastR_of hWl (a := n + 1) (n := k) (ns := ns) h.2.2.2
    show lastR (n :: k :: ns) = lastL (n + 1) (k :: ns)
    rw [← q]
    rfl
theorem lastR_ok {W : List Int} (hWl : W.length ≤ 17592186044416) {to : Int} {ns : List Int} (h : lk W to ns) : lastR ns = lastL 0 ns := by
  cases ns with
  | nil => rfl
  | cons n ns => exact lastR_of hWl h
/-- What Whole says, by the chain. -/
theorem wh_iff {W : List Int} (hW : ∀ i, isW (oat W i)) (hWl : W.length ≤ 17592186044416) {q : Int} (h0 : 0 ≤ q) (h2 : q + 2 < W.length) {n : Nat} (hn : oat W (q + 2).toNat = n) (hn2 : n ≤ 65536) :
    (∃ ns, Wh W q ns) ↔ (rch W (n + 1) (oat W q.toNat) []).2 = true ∧ (rch W (n + 1) (oat W q.toNat) []).1.length = n ∧ oat W (q + 1).toNat = lastR (rch W (n + 1) (oat W q.toNat) []).1 := by
  constructor
  · rintro ⟨ns, _, _, e, e2, h, hl⟩
    have hln : ns.length = n := by omega
    rw [rch_of h (by omega)]
    exact ⟨rfl, by simpa using hln, by rw [hl]; exact (lastR_ok hWl h).symm⟩
  · obtain ⟨⟨L, b⟩, hr⟩ : ∃ r, rch W (n + 1) (oat W q.toNat) [] = r := ⟨_, rfl⟩
    rw [hr]
    rintro ⟨e1, e2, e3⟩
    dsimp only at e1 e2 e3
    subst e1
    obtain ⟨ns, a1, a2⟩ := rch_back hW (hW _) hr (by rw [e2]; simp)
    rw [List.nil_append] at a1
    rw [a1] at e2 e3
    exact ⟨ns, h0, h2, by omega, by omega, a2, by rw [e3]; exact lastR_ok hWl a2⟩
theorem wh_rch {W : List Int} {q : Int} {ns : List Int} (h : Wh W q ns) {n : Nat} (hn : oat W (q + 2).toNat = n) : rch W (n + 1) (oat W q.toNat) [] = (ns, true) := by
  obtain ⟨_, _, e, _, h, _⟩ := h
  rw [rch_of h (by omega)]
  rfl

/-- What Whole answers. -/
def WhPost (W : List Int) (q : Int) (w : World) (e : Ending) (w' : World) : Prop := ∃ v ok, e = .returned (.tuple #[v, .bool ok]) ∧ Keeps (fun _ => False) w w' ∧ ((∃ ns, Wh W q ns ∧ ok = true ∧ Wr w' w.heap.size v ns) ∨ ((¬ ∃ ns, Wh W q ns) ∧ ok = false ∧ v = .slice none 0 0))
theorem WhPost.no {W : List Int} {q : Int} {w w' : World} (k : Keeps (fun _ => False) w w') (h : ¬ ∃ ns, Wh W q ns) : WhPost W q w (.returned (.tuple #[.slice none 0 0, .bool false])) w' := ⟨_, _, rfl, k, .inr ⟨h, rfl, rfl⟩⟩
theorem WhPost.yes {W : List Int} {q : Int} {w w' : World} {v : Value} {ns : List Int} (k : Keeps (fun _ => False) w w') (h : Wh W q ns) (hw : Wr w' w.heap.size v ns) : WhPost W q w (.returned (.tuple #[v, .bool true])) w' := ⟨_, _, rfl, k, .inl ⟨ns, h, rfl, hw⟩⟩
set_option maxRecDepth 100000 in
set_option maxHeartbeats 4000000 in
theorem whole_any (vw : Value) (W : List Int) (hW : ∀ i, isW (oat W i)) (hWl : W.length ≤ 17592186044416) (q : Int) (hq : isW q) (w : World) (h : Lies w vw W) :
    Calls Try.prog 8 #[vw, .int .u64 q] w fun e w' => WhPost W q w e w' := by
  obtain ⟨aw, cw, rfl⟩ := h.form
  have H := hid h
  have hwl : IntKind.u64.wrap (W.length : Int) = (W.length : Int) := by rw [IntKind.wrap_u64]; omega
  have q0 := hq.1
  have qt := hq.2
  clear h
  by_cases h2 : q + 2 < W.length
  · have e1 : IntKind.u64.wrap (q + 1) = q + 1 := by rw [IntKind.wrap_u64]; omega
    have e2 : IntKind.u64.wrap (q + 2) = q + 2 := by rw [IntKind.wrap_u64]; omega
    have hql : q < (W.length : Int) := by omega
    obtain ⟨g, off, c, hv, hc⟩ := H.out.some (by omega)
    cases hv
    have c0 := hc q.toNat (by omega)
    have c2 := hc (q + 2).toNat (by omega)
    have HN2 := hW (q + 2).toNat
    obtain ⟨l0, hl0⟩ : ∃ x, oat W q.toNat = x := ⟨_, rfl⟩
    obtain ⟨l2, hl2⟩ : ∃ x, oat W (q + 2).toNat = x := ⟨_, rfl⟩
    rw [hl0] at c0
    rw [hl2] at c2 HN2
    have HL0 := hid hl0
    have HL2 := hid hl2
    have HW := hid hW
    have hw0 : isW l0 := by rw [← hl0]; exact hW _
    clear hc hl0 hl2 hW
    by_cases hb : 65536 < l2
    · have HNO : Hid (¬ ∃ ns, Wh W q ns) := hid (by rintro ⟨ns, _, _, e, e2, _⟩; have := HL2.out; omega)
      go_enter Try.func8, Try.ntmps8
      go_wp2_with fail
      go_ret2
      exact WhPost.no (Keeps.refl _ _) HNO.out
    · obtain ⟨n, rfl⟩ : ∃ n : Nat, l2 = n := ⟨l2.toNat, by have := HN2.1; omega⟩
      have hn : n ≤ 65536 := by omega
      have hb' : (n : Int) ≤ 65536 := by omega
      have hwn : IntKind.i64.wrap (n : Int) = (n : Int) := by rw [IntKind.wrap_i64]; omega
      have HIFF := hid (wh_iff HW.out hWl q0 h2 HL2.out hn)
      have HRC := hid (fun (ns : List Int) (h : Wh W q ns) => wh_rch h HL2.out)
      rw [HL0.out] at HIFF HRC
      have hlen := rch_len (W := W) (n + 1) l0 []
      obtain ⟨⟨L, b⟩, hr⟩ : ∃ r, rch W (n + 1) l0 [] = r := ⟨_, rfl⟩
      rw [hr] at HIFF HRC hlen
      have HR := hid hr
      have hlen2 : L.length ≤ 65537 := by simp at hlen; omega
      clear hr hb hlen HN2
      go_enter Try.func8, Try.ntmps8
      go_wp2_with fail
      refine (rchain_any _ W HW.out hWl l0 hw0 n hn w H.out).mono ?_
      rintro e_ w1 ⟨v, rfl, hwr, k1⟩
      rw [HR.out] at hwr ⊢
      dsimp only at hwr ⊢
      have hlie := (H.out.keeps k1 (fun _ _ _ _ f => f)).some (by omega)
      obtain ⟨g', off', c', hv', hc'⟩ := hlie
      cases hv'
      have c1 := hc' (q + 1).toNat (by omega)
      obtain ⟨av, cv, hav⟩ := hwr.form
      obtain ⟨m, hm⟩ : ∃ m, L.length = m := ⟨_, rfl⟩
      rw [hm] at hav hlen2
      subst hav
      have HWR := hid (And.intro hwr k1)
      have HM := hid hm
      have HLI := hid hwr.lies
      have hwm : IntKind.u64.wrap (m : Int) = (m : Int) := by rw [IntKind.wrap_u64]; omega
      have hw1 := HW.out (q + 1).toNat
      obtain ⟨l1, hl1⟩ : ∃ x, oat W (q + 1).toNat = x := ⟨_, rfl⟩
      rw [hl1] at c1 HIFF
      clear hwr hm hc' hl1 hw1 k1
      by_cases hm0 : m = 0
      · subst hm0
        have HLR : Hid (lastR L = 0) := hid (by unfold lastR; rw [if_pos HM.out])
        cases b with
        | false =>
          have HNO : Hid (¬ ∃ ns, Wh W q ns) := hid (fun h => by have p := HIFF.out.1 h; simp at p)
          go_wp2_with fail
          go_ret2
          exact WhPost.no HWR.out.2 HNO.out
        | true =>
          by_cases hmn : (0 : Nat) = n
          · subst hmn
            by_cases hl : l1 = 0
            · have HYES : Hid (∃ ns, Wh W q ns) := hid (HIFF.out.2 ⟨rfl, HM.out, by rw [HLR.out]; exact hl⟩)
              have HLL : Hid (∃ ns, Wh W q ns ∧ L = ns) := hid (by obtain ⟨ns, h⟩ := HYES.out; have p := HRC.out ns h; injection p with p1 p2; exact ⟨ns, h, p1⟩)
              subst hl
              go_wp2_with fail
              go_ret2
              obtain ⟨ns, a1, a2⟩ := HLL.out
              subst a2
              have p := HWR.out.1
              exact WhPost.yes HWR.out.2 a1 p
            · have HNO : Hid (¬ ∃ ns, Wh W q ns) := hid (fun h => by have p := (HIFF.out.1 h).2.2; rw [HLR.out] at p; exact hl p)
              go_wp2_with fail
              go_ret2
              exact WhPost.no HWR.out.2 HNO.out
          · have HNO : Hid (¬ ∃ ns, Wh W q ns) := hid (fun h => by have p := (HIFF.out.1 h).2.1; rw [HM.out] at p; exact hmn p)
            have hmi : ((0 : Nat) : Int) ≠ (n : Int) := by omega
            clear hmn
            go_wp2_with fail
            go_ret2
            exact WhPost.no HWR.out.2 HNO.out
      · have hm1 : (0 : Int) < (m : Int) := by omega
        obtain ⟨gl, offl, cl, hvl, hcl⟩ := HLI.out.some (by rw [HM.out]; omega)
        rw [HM.out] at hvl
        cases hvl
        have hwm1 : IntKind.i64.wrap ((m : Int) - 1) = ((m - 1 : Nat) : Int) := by rw [IntKind.wrap_i64]; omega
        have hwm2 : wrap64 ((m : Int) - 1) = ((m - 1 : Nat) : Int) := by unfold wrap64; omega
        have ccl := hcl (m - 1) (by rw [HM.out]; omega)
        have hmm : m - 1 < m := by omega
        obtain ⟨z, hz⟩ : ∃ x, oat L (m - 1) = x := ⟨_, rfl⟩
        rw [hz] at ccl
        have HLR : Hid (lastR L = uw (z + 1)) := hid (by unfold lastR; rw [if_neg (by rw [HM.out]; exact hm0), HM.out, hz])
        obtain ⟨y, hy⟩ : ∃ y, IntKind.u64.wrap (z + 1) = y := ⟨_, rfl⟩
        have HY : Hid (uw (z + 1) = y) := hid hy
        clear hcl hz
        cases b with
        | false =>
          have HNO : Hid (¬ ∃ ns, Wh W q ns) := hid (fun h => by have p := HIFF.out.1 h; simp at p)
          go_wp2_with fail
          go_ret2
          exact WhPost.no HWR.out.2 HNO.out
        | true =>
          by_cases hmn : m = n
          · subst hmn
            by_cases hl : l1 = y
            · have HYES : Hid (∃ ns, Wh W q ns) := hid (HIFF.out.2 ⟨rfl, HM.out, by rw [HLR.out]; rw [HY.out]; exact hl⟩)
              have HLL : Hid (∃ ns, Wh W q ns ∧ L = ns) := hid (by obtain ⟨ns, h⟩ := HYES.out; have p := HRC.out ns h; injection p with p1 p2; exact ⟨ns, h, p1⟩)
              subst hl
              go_wp2_with fail
              go_ret2
              obtain ⟨ns, a1, a2⟩ := HLL.out
              subst a2
              have p := HWR.out.1
              exact WhPost.yes HWR.out.2 a1 p
            · have HNO : Hid (¬ ∃ ns, Wh W q ns) := hid (fun h => by have p := (HIFF.out.1 h).2.2; rw [HLR.out, HY.out] at p; exact hl p)
              go_wp2_with fail
              go_ret2
              exact WhPost.no HWR.out.2 HNO.out
          · have HNO : Hid (¬ ∃ ns, Wh W q ns) := hid (fun h => by have p := (HIFF.out.1 h).2.1; rw [HM.out] at p; exact hmn p)
            have hmi : (m : Int) ≠ (n : Int) := by omega
            clear hmn
            go_wp2_with fail
            go_ret2
            exact WhPost.no HWR.out.2 HNO.out
  · have HNO : Hid (¬ ∃ ns, Wh W q ns) := hid (by rintro ⟨ns, _, e, _⟩; omega)
    by_cases a1 : (W.length : Int) ≤ q
    · go_enter Try.func8, Try.ntmps8
      go_wp2_with fail
      go_ret2
      exact WhPost.no (Keeps.refl _ _) HNO.out
    · have e2 : IntKind.u64.wrap (q + 2) = q + 2 := by rw [IntKind.wrap_u64]; omega
      have a2 : q < (W.length : Int) := by omega
      have a3 : (W.length : Int) ≤ q + 2 := by omega
      have a4 : ¬ (q + 2 < q) := by omega
      clear a1 h2
      go_enter Try.func8, Try.ntmps8
      go_wp2_with fail
      go_ret2
      exact WhPost.no (Keeps.refl _ _) HNO.out

end Go.Proofs.Ytadbplbifjeghaa
