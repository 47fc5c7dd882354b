/-
  No statement of the seat is proved here. (Several texts in one: SoCa, SoC, SoCb.)
-/
import Derived.Test.YtifmpiiaebnbiaaSoB

/- Rows that are new, for the law's with and without (layer 22). No statement of the seat is proved here. -/
namespace Go.Proofs.Ytifmpiiaebnbiaa
open Go.RowKit

/-- A row that is handed on, or new. -/
def NewR (w w' : World) (a : Option Addr) (L : List Int) (v : Value) (R : List Int) : Prop := ∃ a' c', v = .slice a' R.length c' ∧ R.length ≤ c' ∧ Lies w' v R ∧ Keeps (fun _ => False) w w' ∧ ((a' = a ∧ R = L) ∨ ∀ q, a' = some q → w.heap.size ≤ q.block)
theorem newR_wr {w w' : World} {a : Option Addr} {L : List Int} {v : Value} {R : List Int} (h : Wr w' w.heap.size v R) (k : Keeps (fun _ => False) w w') : NewR w w' a L v R := by
  have hl := h.lies
  rcases id h.2 with ⟨e, e2⟩ | ⟨g, cap, cur, e, q1, q2, q3, _⟩
  · have : R.length = 0 := e2
    refine ⟨none, 0, by rw [this]; exact e, by omega, hl, k, .inr fun q hq => by cases hq⟩
  · refine ⟨some ⟨g, 0, none⟩, cap, e, q3, hl, k, .inr fun q hq => ?_⟩
    cases hq
    exact q1
theorem wordsV_app (A B : List Int) : wordsV (A ++ B) = wordsV A ++ wordsV B := by unfold wordsV; rw [List.map_append]
theorem wr_app {w : World} {base : Nat} {v vs : Value} {L ys : List Int} (h : Wr w base v L) (hr : Lies w vs ys) (hb : L.length + ys.length ≤ 1000000) (hbase : base ≤ w.heap.size) :
    ∃ v' w', (Builtin.append_ #[24, 24] 24 #[v, vs]).run Try.prog w = .ok v' w' ∧ Wr w' base v' (L ++ ys) ∧ Keeps (fun g => base ≤ g) w w' := by
  obtain ⟨v', w', r, o, g⟩ := app_words w base v L.length (wordsV L) h vs ys hr (by omega) hbase
  refine ⟨v', w', r, ?_, (keeps_grown g).mono (fun k _ e => (own_block h e).2)⟩
  unfold Wr
  rw [List.length_append, wordsV_app]
  exact o
theorem keeps_base {w X X' : World} (h : Keeps (fun _ => False) w X) (k : Keeps (fun g => w.heap.size ≤ g) X X') : Keeps (fun _ => False) w X' := h.step k (fun i hi e => by omega)
theorem Lies.upto {w : World} {a : Option Addr} {c : Nat} {L : List Int} (h : Lies w (.slice a L.length c) L) (p : Nat) (hp : p ≤ L.length) : Lies w (.slice a p c) (L.take p) := by
  obtain ⟨a', c', e, hc⟩ := h
  obtain ⟨rfl, _, rfl⟩ := Value.slice.inj e
  refine ⟨a, c, by rw [List.length_take, Nat.min_eq_left hp], fun i hi => ?_⟩
  have hi' : i < p := by rw [List.length_take] at hi; omega
  obtain ⟨g, off, e1, e2⟩ := hc i (by omega)
  refine ⟨g, off, e1, ?_⟩
  rw [e2]
  unfold oat
  rw [List.getElem?_take_of_lt hi']
theorem Lies.from_ {w : World} {a : Option Addr} {c : Nat} {L : List Int} (h : Lies w (.slice a L.length c) L) (p : Nat) (hp : p ≤ L.length) (hc0 : L.length ≤ c) (d : Nat) : Lies w (.slice (if c = p then a else a.map (·.add p)) (L.length - p) d) (L.drop p) := by
  obtain ⟨a', c', e, hc⟩ := h
  obtain ⟨rfl, _, rfl⟩ := Value.slice.inj e
  refine ⟨_, d, by rw [List.length_drop], fun i hi => ?_⟩
  rw [List.length_drop] at hi
  obtain ⟨g, off, rfl, e2⟩ := hc (p + i) (by omega)
  rw [if_neg (by omega)]
  refine ⟨g, off + p, by simp [Addr.add], ?_⟩
  rw [show off + p + i = off + (p + i) by omega, e2]
  unfold oat
  rw [List.getElem?_drop]
end Go.Proofs.Ytifmpiiaebnbiaa


/- The law's with (layer 22). No statement of the seat is proved here. -/
namespace Go.Proofs.Ytifmpiiaebnbiaa
open Go.RowKit

set_option maxRecDepth 100000 in
set_option maxHeartbeats 4000000 in
theorem with_any (a : Option Addr) (L : List Int) (c : Nat) (x : Int) (hc : L.length ≤ c) (hl : L.length ≤ 1000) (w : World) (h : Lies w (.slice a L.length c) L) :
    Calls Try.prog 12 #[.slice a L.length c, .int .u64 x] w fun e w' => ∃ v, e = .returned v ∧ NewR w w' a L v (withK L x) := by
  have hple : plc L x ≤ L.length := plc_le x L
  have HPL := hid (place_any _ L x hl w h)
  obtain ⟨p, hp⟩ : ∃ p, plc L x = p := ⟨_, rfl⟩
  have HL := hid h
  rw [hp] at HPL hple
  by_cases ht : thr L x = true
  · have HR : Hid (withK L x = L) := hid (by unfold withK; rw [if_pos ht])
    unfold thr at ht
    rw [hp, Bool.and_eq_true, decide_eq_true_eq, beq_iff_eq] at ht
    obtain ⟨h1, h2⟩ := ht
    have h1' : (p : Int) < (L.length : Int) := by omega
    obtain ⟨a', c', e, hcell⟩ := id h
    obtain ⟨rfl, _, rfl⟩ := Value.slice.inj e
    obtain ⟨g, off, rfl, d⟩ := hcell p h1
    rw [h2] at d
    clear hcell e h hp
    go_enter Try.func12, Try.ntmps12
    go_wp2_with fail
    refine HPL.out.mono ?_
    rintro e_ w_ ⟨rfl, hw_⟩
    subst w_
    clear HPL
    go_wp2_with fail
    go_ret
    refine ⟨_, rfl, some ⟨g, off, none⟩, c, by rw [HR.out]; rfl, by rw [HR.out]; exact hc, by rw [HR.out]; exact HL.out, Keeps.refl _ _, .inl ⟨rfl, HR.out⟩⟩
  · have HR : Hid (withK L x = L.take p ++ [x] ++ L.drop p) := hid (by unfold withK; rw [if_neg ht, hp]; simp)
    have hno : ¬ (p < L.length ∧ oat L p = x) := fun ⟨q1, q2⟩ => ht (by unfold thr; rw [hp]; simp [q1, q2])
    obtain ⟨v1, w1, r1, o1, k1⟩ := wr_app (w := w) (base := w.heap.size) (v := .slice none 0 0) (L := []) (Wr.nil _ _) (h.upto p hple) (by rw [List.length_take]; simp; omega) (Nat.le_refl _)
    have kw1 : Keeps (fun _ => False) w w1 := keeps_base (Keeps.refl _ _) k1
    rw [List.nil_append] at o1
    obtain ⟨v2, w2, r2, o2, k2⟩ := o1.push kw1.size (by rw [List.length_take]; omega) x
    have kw2 := keeps_base kw1 k2
    have hL2 : Lies w2 (.slice a L.length c) L := h.keeps kw2 (fun _ _ _ _ f => f)
    obtain ⟨v3, w3, r3, o3, k3⟩ := wr_app o2 (hL2.from_ p hple hc (c - p)) (by simp; omega) kw2.size
    have kw3 := keeps_base kw2 k3
    have HF : Hid (NewR w w3 a L v3 (withK L x)) := hid (by rw [HR.out]; exact newR_wr o3 kw3)
    have H1 := hid r1
    have H2 := hid r2
    have H3 : Hid (_ = _) := hid r3
    have hpc : (p : Int) ≤ (c : Int) := by omega
    have hpl : (p : Int) ≤ (L.length : Int) := by omega
    have hlc : (L.length : Int) ≤ (c : Int) := by omega
    clear r1 r2 r3 o1 o2 o3 k1 k2 k3 kw1 kw2 kw3 hL2 hp HR
    by_cases h1 : p < L.length
    · have h1' : (p : Int) < (L.length : Int) := by omega
      have h2 : oat L p ≠ x := fun e => hno ⟨h1, e⟩
      have hcp : c ≠ p := by omega
      obtain ⟨a', c', e, hcell⟩ := id h
      obtain ⟨rfl, _, rfl⟩ := Value.slice.inj e
      obtain ⟨g, off, rfl, d⟩ := hcell p h1
      rw [if_neg hcp] at H3
      simp only [Option.map_some, addr_add] at H3
      clear hcell e h ht hno
      go_enter Try.func12, Try.ntmps12
      go_wp2_with fail
      refine HPL.out.mono ?_
      rintro e_ w_ ⟨rfl, hw_⟩
      subst w_
      clear HPL
      go_wp2_with (at_builtin; first | (refine wpList_append_run rfl _ _ 24 rfl rfl rfl H1.out ?_; clear H1) | (refine wpList_append_run rfl _ _ 24 rfl rfl rfl H2.out ?_; clear H2) | (refine wpList_append_run rfl _ _ 24 rfl rfl rfl H3.out ?_; clear H3))
      go_ret
      exact ⟨_, rfl, HF.out⟩
    · have hpe : p = L.length := by omega
      subst hpe
      have hA : a = none ∨ ∃ g off, a = some ⟨g, off, none⟩ ∨ (∃ ad, a = some ad ∧ L.length = 0) := by
        cases a with
        | none => exact .inl rfl
        | some ad =>
          by_cases h0 : 0 < L.length
          · obtain ⟨a', c', e, hcell⟩ := h
            obtain ⟨rfl, _, rfl⟩ := Value.slice.inj e
            obtain ⟨g, off, e2, d⟩ := hcell 0 h0
            exact .inr ⟨g, off, .inl e2⟩
          · exact .inr ⟨0, 0, .inr ⟨ad, rfl, by omega⟩⟩
      obtain ⟨n, hn⟩ : ∃ n, L.length = n := ⟨_, rfl⟩
      rw [hn] at H1 H3 HPL hA hpc hpl hlc hc hl hple ⊢
      clear h ht hno HL h1 hn
      simp only [Nat.sub_self] at H3
      by_cases hcp : c = n
      · subst hcp
        rw [if_pos rfl] at H3
        simp only [Nat.sub_self] at H3
        have hnn : ¬ (c : Int) < (c : Int) := by omega
        rcases hA with rfl | ⟨g, off, rfl | ⟨ad, rfl, h0⟩⟩
        · skip
          go_enter Try.func12, Try.ntmps12
          go_wp2_with fail
          refine HPL.out.mono ?_
          rintro e_ w_ ⟨rfl, hw_⟩
          subst w_
          clear HPL
          go_wp2_with (at_builtin; first | (refine wpList_append_run rfl _ _ 24 rfl rfl rfl H1.out ?_; clear H1) | (refine wpList_append_run rfl _ _ 24 rfl rfl rfl H2.out ?_; clear H2) | (refine wpList_append_run rfl _ _ 24 rfl rfl rfl H3.out ?_; clear H3))
          go_ret
          exact ⟨_, rfl, HF.out⟩
        · skip
          go_enter Try.func12, Try.ntmps12
          go_wp2_with fail
          refine HPL.out.mono ?_
          rintro e_ w_ ⟨rfl, hw_⟩
          subst w_
          clear HPL
          go_wp2_with (at_builtin; first | (refine wpList_append_run rfl _ _ 24 rfl rfl rfl H1.out ?_; clear H1) | (refine wpList_append_run rfl _ _ 24 rfl rfl rfl H2.out ?_; clear H2) | (refine wpList_append_run rfl _ _ 24 rfl rfl rfl H3.out ?_; clear H3))
          go_ret
          exact ⟨_, rfl, HF.out⟩
        · subst h0
          go_enter Try.func12, Try.ntmps12
          go_wp2_with fail
          refine HPL.out.mono ?_
          rintro e_ w_ ⟨rfl, hw_⟩
          subst w_
          clear HPL
          go_wp2_with (at_builtin; first | (refine wpList_append_run rfl _ _ 24 rfl rfl rfl H1.out ?_; clear H1) | (refine wpList_append_run rfl _ _ 24 rfl rfl rfl H2.out ?_; clear H2) | (refine wpList_append_run rfl _ _ 24 rfl rfl rfl H3.out ?_; clear H3))
          go_ret
          exact ⟨_, rfl, HF.out⟩
      · rw [if_neg hcp] at H3
        have hcp' : (n : Int) < (c : Int) := by omega
        have hnn : ¬ (n : Int) < (n : Int) := by omega
        rcases hA with rfl | ⟨g, off, rfl | ⟨ad, rfl, h0⟩⟩
        · simp only [Option.map_none] at H3
          go_enter Try.func12, Try.ntmps12
          go_wp2_with fail
          refine HPL.out.mono ?_
          rintro e_ w_ ⟨rfl, hw_⟩
          subst w_
          clear HPL
          go_wp2_with (at_builtin; first | (refine wpList_append_run rfl _ _ 24 rfl rfl rfl H1.out ?_; clear H1) | (refine wpList_append_run rfl _ _ 24 rfl rfl rfl H2.out ?_; clear H2) | (refine wpList_append_run rfl _ _ 24 rfl rfl rfl H3.out ?_; clear H3))
          go_ret
          exact ⟨_, rfl, HF.out⟩
        · simp only [Option.map_some, addr_add] at H3
          go_enter Try.func12, Try.ntmps12
          go_wp2_with fail
          refine HPL.out.mono ?_
          rintro e_ w_ ⟨rfl, hw_⟩
          subst w_
          clear HPL
          go_wp2_with (at_builtin; first | (refine wpList_append_run rfl _ _ 24 rfl rfl rfl H1.out ?_; clear H1) | (refine wpList_append_run rfl _ _ 24 rfl rfl rfl H2.out ?_; clear H2) | (refine wpList_append_run rfl _ _ 24 rfl rfl rfl H3.out ?_; clear H3))
          go_ret
          exact ⟨_, rfl, HF.out⟩
        · subst h0
          have ea : ad.add 0 = ad := by unfold Addr.add; simp
          simp only [Option.map_some, ea] at H3
          go_enter Try.func12, Try.ntmps12
          go_wp2_with fail
          refine HPL.out.mono ?_
          rintro e_ w_ ⟨rfl, hw_⟩
          subst w_
          clear HPL
          go_wp2_with (at_builtin; first | (refine wpList_append_run rfl _ _ 24 rfl rfl rfl H1.out ?_; clear H1) | (refine wpList_append_run rfl _ _ 24 rfl rfl rfl H2.out ?_; clear H2) | (refine wpList_append_run rfl _ _ 24 rfl rfl rfl H3.out ?_; clear H3))
          go_ret
          exact ⟨_, rfl, HF.out⟩
end Go.Proofs.Ytifmpiiaebnbiaa


/- The law's without (layer 22). No statement of the seat is proved here. -/
namespace Go.Proofs.Ytifmpiiaebnbiaa
open Go.RowKit

set_option maxRecDepth 100000 in
set_option maxHeartbeats 4000000 in
theorem without_any (a : Option Addr) (L : List Int) (c : Nat) (x : Int) (hl : L.length ≤ 1000) (w : World) (h : Lies w (.slice a L.length c) L) :
    Calls Try.prog 13 #[.slice a L.length c, .int .u64 x] w fun e w' => ∃ v, e = .returned v ∧ NewR w w' none [] v (outK L x) := by
  have HL := hid h
  clear h
  go_enter Try.func13, Try.ntmps13
  go_wp2_with fail
  go_loopw [5, 6] (fun ov iv wr => ∃ k : Nat, k ≤ L.length ∧ iv = .int .i64 (k : Int) ∧ Hid (Wr wr w.heap.size ov (outK (L.take k) x) ∧ Keeps (fun _ => False) w wr)) (fun _ iv _ => L.length - (intOf iv).toNat)
  case atStart => exact ⟨0, by omega, rfl, hid ⟨Wr.nil _ _, Keeps.refl _ _⟩⟩
  case round =>
    obtain ⟨k, hk, rfl, hr⟩ := hrel
    obtain ⟨ao, co, rfl⟩ := hr.out.1.form
    by_cases hlt : k < L.length
    · have hlt' : (k : Int) < (L.length : Int) := by omega
      obtain ⟨a', c', e, hcell⟩ := HL.out.keeps hr.out.2 (fun _ _ _ _ f => f)
      obtain ⟨rfl, _, rfl⟩ := Value.slice.inj e
      obtain ⟨g, off, rfl, d⟩ := hcell k hlt
      clear hcell e
      have htk : L.take (k + 1) = L.take k ++ [oat L k] := by
        rw [List.take_add_one]
        unfold oat
        rw [List.getElem?_eq_getElem hlt]
        rfl
      obtain ⟨n, hn⟩ : ∃ n, (outK (L.take k) x).length = n := ⟨_, rfl⟩
      have hnl : n ≤ 1000 := by
        rw [← hn]
        unfold outK
        have q := List.length_filter_le (fun y => y != x) (L.take k)
        rw [List.length_take] at q
        omega
      by_cases hx : oat L k = x
      · have HF : Hid (Wr wr w.heap.size (.slice ao (outK (L.take k) x).length co) (outK (L.take (k + 1)) x) ∧ Keeps (fun _ => False) w wr) := hid (by
          rw [htk]
          unfold outK
          rw [List.filter_append, List.filter_cons, if_neg (by simp [hx])]
          simpa [outK] using hr.out)
        rw [hx] at d
        rw [hn] at HF
        rw [hn]
        clear hr
        go_wp2_with fail
        go_roundw
        case rel => exact ⟨k + 1, by omega, by go_num, HF⟩
        case measure => simp [intOf]; omega
      · obtain ⟨v2, w2, r2, o2, k2⟩ := hr.out.1.push hr.out.2.size (by omega) (oat L k)
        have HF : Hid (Wr w2 w.heap.size v2 (outK (L.take (k + 1)) x) ∧ Keeps (fun _ => False) w w2) := hid ⟨by
          have e : outK (L.take (k + 1)) x = outK (L.take k) x ++ [oat L k] := by
            rw [htk]
            unfold outK
            rw [List.filter_append, List.filter_cons, if_pos (by simp [hx])]
            simp
          rw [e]; exact o2, keeps_base hr.out.2 k2⟩
        have H2 := hid r2
        rw [hn] at H2
        rw [hn]
        clear r2 o2 k2 hr
        go_wp2_with (at_builtin; refine wpList_append_run rfl _ _ 24 rfl rfl rfl H2.out ?_; clear H2)
        go_roundw
        case rel => exact ⟨k + 1, by omega, by go_num, HF⟩
        case measure => simp [intOf]; omega
    · obtain rfl : k = L.length := by omega
      have HF : Hid (NewR w wr none [] (.slice ao (outK (L.take L.length) x).length co) (outK L x)) := hid (by
        have q := newR_wr (a := none) (L := []) hr.out.1 hr.out.2
        rwa [List.take_length] at q ⊢)
      clear hr
      go_wp2_with fail
      go_ret
      exact ⟨_, rfl, HF.out⟩
end Go.Proofs.Ytifmpiiaebnbiaa
