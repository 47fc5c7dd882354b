
/- The walks of unite and meld (layer 24). No statement of the seat is proved here. -/
import Derived.Test.YtalopkllldnipaaRkVM
import Derived.Laws.EntriesVeiled
namespace Go.Proofs.Ytalopkllldnipaa
open Go.RowKit

set_option maxHeartbeats 2000000 in
theorem unite_any {tf : Nat} {tcap : Array Value} {T : Wd → (Int × Int) × Wd} {Fr : World → Prop} {F : Nat → Prop} {b g c : Nat} (E : TurnAt tf tcap T Fr F b g c) {ta tb : Option Tr} {pa pb : Option Addr} {s s1 : Wd} {w : World} {t : Option Tr} {n e : Int} (hu : uni T 128 ta tb s = (((t, n), e), s1)) (h : WdAt w b g c s) (hf : Fr w) (ha : PtF b g F w pa ta) (hb : PtF b g F w pb tb) (hne : ∀ q, pa = some ⟨q, 0, none⟩ → pb ≠ some ⟨q, 0, none⟩) :
    Calls Try.prog 54 #[.iface 24 (.pointer (some ⟨b, 0, none⟩)), .pointer pa, .pointer pb, .func (.func tf) #[] tcap] w fun r w' => ∃ po, r = .returned (.tuple #[.pointer po, .int .i64 e]) ∧ WdAt w' b g c s1 ∧ Keeps (fun i => two b g i ∨ F i ∨ pa = some ⟨i, 0, none⟩ ∨ pb = some ⟨i, 0, none⟩) w w' ∧ (e = 0 → PtF b g F w' po t) := by
  have hsz : b < w.heap.size ∧ g < w.heap.size ∧ (∀ i, F i → i < w.heap.size) := ⟨h.ltb, h.ltg, fun i hi => E.lt hf hi⟩
  have HC : Hid (Calls Try.prog 77 #[.pointer pa, .pointer pb, .int .i64 128, .pointer (some ⟨w.heap.size + 1, 0, none⟩), .pointer (some ⟨w.heap.size, 0, none⟩), .pointer (some ⟨w.heap.size + 1 + 1, 0, none⟩)] (((w.alloc (.cells #[.iface 24 (.pointer (some ⟨b, 0, none⟩))] 77)).alloc (.cells #[.func (.func tf) #[] tcap] 118)).alloc (.cells #[.func (.func 77) #[] #[.pointer (some ⟨w.heap.size + 1, 0, none⟩), .pointer (some ⟨w.heap.size, 0, none⟩), .pointer (some ⟨w.heap.size + 1 + 1, 0, none⟩)]] 136)) fun r w' => ∃ po, r = .returned (.tuple #[.pointer po, .int .i64 e]) ∧ Hid (WdAt w' b g c s1 ∧ Keeps (fun i => two b g i ∨ F i ∨ pa = some ⟨i, 0, none⟩ ∨ pb = some ⟨i, 0, none⟩) w w' ∧ (e = 0 → PtF b g F w' po t))) := by
    have k1 : Keeps (fun _ => False) w (((w.alloc (.cells #[.iface 24 (.pointer (some ⟨b, 0, none⟩))] 77)).alloc (.cells #[.func (.func tf) #[] tcap] 118)).alloc (.cells #[.func (.func 77) #[] #[.pointer (some ⟨w.heap.size + 1, 0, none⟩), .pointer (some ⟨w.heap.size, 0, none⟩), .pointer (some ⟨w.heap.size + 1 + 1, 0, none⟩)]] 136)) := ((keeps_new w _).alloc _).alloc _
    have e1 : (w.alloc (.cells #[.iface 24 (.pointer (some ⟨b, 0, none⟩))] 77)).heap.size = w.heap.size + 1 := by simp
    have e2 : ((w.alloc (.cells #[.iface 24 (.pointer (some ⟨b, 0, none⟩))] 77)).alloc (.cells #[.func (.func tf) #[] tcap] 118)).heap.size = w.heap.size + 1 + 1 := by simp
    have b1 : Blk (((w.alloc (.cells #[.iface 24 (.pointer (some ⟨b, 0, none⟩))] 77)).alloc (.cells #[.func (.func tf) #[] tcap] 118)).alloc (.cells #[.func (.func 77) #[] #[.pointer (some ⟨w.heap.size + 1, 0, none⟩), .pointer (some ⟨w.heap.size, 0, none⟩), .pointer (some ⟨w.heap.size + 1 + 1, 0, none⟩)]] 136)) w.heap.size 77 #[.iface 24 (.pointer (some ⟨b, 0, none⟩))] := ((blk_new w _ _).kept (keeps_new _ _) (fun f => f)).kept (keeps_new _ _) (fun f => f)
    have b2 : Blk (((w.alloc (.cells #[.iface 24 (.pointer (some ⟨b, 0, none⟩))] 77)).alloc (.cells #[.func (.func tf) #[] tcap] 118)).alloc (.cells #[.func (.func 77) #[] #[.pointer (some ⟨w.heap.size + 1, 0, none⟩), .pointer (some ⟨w.heap.size, 0, none⟩), .pointer (some ⟨w.heap.size + 1 + 1, 0, none⟩)]] 136)) (w.heap.size + 1) 118 #[.func (.func tf) #[] tcap] := by
      have q := (blk_new (w.alloc (.cells #[.iface 24 (.pointer (some ⟨b, 0, none⟩))] 77)) 118 #[.func (.func tf) #[] tcap]).kept (keeps_new _ (.cells #[.func (.func 77) #[] #[.pointer (some ⟨w.heap.size + 1, 0, none⟩), .pointer (some ⟨w.heap.size, 0, none⟩), .pointer (some ⟨w.heap.size + 1 + 1, 0, none⟩)]] 136)) (fun f => f)
      rw [e1] at q
      exact q
    have b3 : Blk (((w.alloc (.cells #[.iface 24 (.pointer (some ⟨b, 0, none⟩))] 77)).alloc (.cells #[.func (.func tf) #[] tcap] 118)).alloc (.cells #[.func (.func 77) #[] #[.pointer (some ⟨w.heap.size + 1, 0, none⟩), .pointer (some ⟨w.heap.size, 0, none⟩), .pointer (some ⟨w.heap.size + 1 + 1, 0, none⟩)]] 136)) (w.heap.size + 1 + 1) 136 #[.func (.func 77) #[] #[.pointer (some ⟨w.heap.size + 1, 0, none⟩), .pointer (some ⟨w.heap.size, 0, none⟩), .pointer (some ⟨w.heap.size + 1 + 1, 0, none⟩)]] := by
      have q := blk_new ((w.alloc (.cells #[.iface 24 (.pointer (some ⟨b, 0, none⟩))] 77)).alloc (.cells #[.func (.func tf) #[] tcap] 118)) 136 #[.func (.func 77) #[] #[.pointer (some ⟨w.heap.size + 1, 0, none⟩), .pointer (some ⟨w.heap.size, 0, none⟩), .pointer (some ⟨w.heap.size + 1 + 1, 0, none⟩)]]
      rw [e2] at q
      exact q
    have hj : JoAt (((w.alloc (.cells #[.iface 24 (.pointer (some ⟨b, 0, none⟩))] 77)).alloc (.cells #[.func (.func tf) #[] tcap] 118)).alloc (.cells #[.func (.func 77) #[] #[.pointer (some ⟨w.heap.size + 1, 0, none⟩), .pointer (some ⟨w.heap.size, 0, none⟩), .pointer (some ⟨w.heap.size + 1 + 1, 0, none⟩)]] 136)) b g (w.heap.size + 1) w.heap.size (w.heap.size + 1 + 1) (.func (.func tf) #[] tcap) F := by
      refine ⟨b2.cell rfl, b1.cell rfl, b3.cell rfl, fun x hx => ⟨fun f => ?_, fun f => ?_⟩⟩
      · rcases f with f | f <;> omega
      · have := hsz.2.2 x f
        omega
    refine hid ((join_any E 128 (by omega) ta tb pa pb s s1 _ t n e hu (h.kept k1 (fun f => f) (fun f => f)) hj (E.keep hf (k1.mono (fun _ _ f => f.elim))) (ha.kept k1 (fun _ _ f => f)) (hb.kept k1 (fun _ _ f => f)) hne).mono ?_)
    rintro r w' ⟨po, rfl, h1, k2, h2⟩
    exact ⟨po, rfl, hid ⟨h1, (k1.mono (fun _ _ f => f.elim)).trans k2, fun he => (h2 he).1⟩⟩
  clear E hu h hf ha hb hne hsz
  go_enter Try.func54, Try.ntmps54
  go_wp2_with fail
  refine HC.out.mono ?_
  rintro r w1 ⟨po, rfl, h1⟩
  clear HC
  go_wp2_with fail
  go_ret2
  exact ⟨_, rfl, h1.out⟩

/-- Nothing is done at the turn. -/
theorem turn_nothing (b g c : Nat) : TurnAt 83 #[] turn0 (fun _ => True) (fun _ => False) b g c where
  ent := enters (by kernel_rfl)
  call := fun X s s1 n e hT h _ => by
    obtain ⟨rfl, rfl, rfl⟩ := rtn_eq hT
    have HH := hid h
    clear h hT
    go_enter Try.func83, Try.ntmps83
    go_wp2_with fail
    go_ret
    exact ⟨rfl, HH.out, Keeps.refl _ _, fun _ q t ht hf _ => by rw [res_no (by cases h : t.f with | false => rfl | true => exact (hf.1 h).elim)]; exact ht⟩
  keep := fun _ _ => trivial
  off := fun _ f => f.elim
  lt := fun _ f => f.elim
theorem PtAt.ptF {b g : Nat} {w : World} {base : Nat} {po : Option Addr} {t : Option Tr} (h : PtAt w base po t) (hf : ∀ u, t = some u → u.f = false) (hb : b < base ∧ g < base) : PtF b g (fun _ => False) w po t := by
  cases t with
  | none => exact h
  | some t =>
    obtain ⟨q, h1, h2, h3⟩ := h
    exact ⟨q, h2, h3, ⟨fun f => (by rw [hf t rfl] at f; cases f), fun f => f.elim⟩, fun f => by rcases f with f | f <;> omega⟩

set_option maxHeartbeats 2000000 in
theorem meld_any {b g c : Nat} {s s1 : Wd} {x y z e : Int} (heq : Hid (mldF x y s = ((z, e), s1))) (hx : isW x) (hy : isW y) {w : World} (h : WdAt w b g c s) :
    Calls Try.prog 59 #[.iface 24 (.pointer (some ⟨b, 0, none⟩)), .int .u64 x, .int .u64 y] w fun r w' => r = .returned (.tuple #[.int .u64 z, .int .i64 e]) ∧ WdAt w' b g c s1 ∧ Keeps (two b g) w w' := by
  have heq := heq.out
  unfold mldF at heq
  by_cases hx0 : x = 0
  · rw [if_pos hx0] at heq
    obtain ⟨rfl, rfl, rfl⟩ := rtn_eq heq
    subst hx0
    have HH := hid h
    clear h heq
    go_enter Try.func59, Try.ntmps59
    go_wp2_with fail
    go_ret2
    exact ⟨rfl, HH.out, Keeps.refl _ _⟩
  rw [if_neg hx0] at heq
  by_cases hy0 : y = 0
  · rw [if_pos hy0] at heq
    obtain ⟨rfl, rfl, rfl⟩ := rtn_eq heq
    subst hy0
    have HH := hid h
    clear h heq
    go_enter Try.func59, Try.ntmps59
    go_wp2_with fail
    go_ret2
    exact ⟨rfl, HH.out, Keeps.refl _ _⟩
  rw [if_neg hy0] at heq
  obtain ⟨t1, e1, s2, ht1, hu1⟩ : ∃ t e2 s2, Hid (treF x s = ((t, e2), s2)) ∧ Hid ((e2 = 0 → bnd (treF y) (fun y => bnd (uni turn0 128 t y) (fun p => rtn (toT p.1)) 0) 0 s2 = ((z, e), s1)) ∧ (e2 ≠ 0 → e = e2 ∧ s1 = s2 ∧ z = 0)) := by
    obtain ⟨l, f, s2, h1, h2, h3⟩ := bnd_step heq
    exact ⟨l, f, s2, hid h1, hid ⟨h2, h3⟩⟩
  have HX := hid (And.intro h.ltb h.ltg)
  have HC := hid (tree_any ht1 hx h)
  clear heq h
  go_enter Try.func59, Try.ntmps59
  go_wp2_with fail
  refine HC.out.mono ?_
  rintro r w1 ⟨p1, rfl, h1, k1, g1⟩
  have HF1 := hid (And.intro h1 (And.intro k1 g1))
  clear HC h1 k1 g1
  by_cases he1 : e1 = 0
  rotate_left
  · go_wp2_with fail
    go_ret2
    obtain ⟨rfl, rfl, rfl⟩ := hu1.out.2 he1
    exact ⟨rfl, HF1.out.1, HF1.out.2.1⟩
  subst he1
  replace hu1 := hid (hu1.out.1 rfl)
  obtain ⟨t2, e2, s3, ht2, hu2⟩ : ∃ t e2 s3, Hid (treF y s2 = ((t, e2), s3)) ∧ Hid ((e2 = 0 → bnd (uni turn0 128 t1 t) (fun p => rtn (toT p.1)) 0 s3 = ((z, e), s1)) ∧ (e2 ≠ 0 → e = e2 ∧ s1 = s3 ∧ z = 0)) := by
    obtain ⟨l, f, s2, h1, h2, h3⟩ := bnd_step hu1.out
    exact ⟨l, f, s2, hid h1, hid ⟨h2, h3⟩⟩
  have HC := hid (tree_any ht2 hy HF1.out.1)
  go_wp2_with fail
  refine HC.out.mono ?_
  rintro r w2 ⟨p2, rfl, h2, k2, g2⟩
  have HF2 : Hid (WdAt w2 b g c s3 ∧ Keeps (two b g) w w2 ∧ PtAt w2 w.heap.size p1 t1 ∧ (e2 = 0 → PtAt w2 w1.heap.size p2 t2) ∧ (∀ q, p1 = some ⟨q, 0, none⟩ → q < w1.heap.size)) := by
    have hx := HX.out
    refine hid ⟨h2, HF1.out.2.1.trans k2, (HF1.out.2.2 (by first | rfl | trivial)).kept k2 (fun i f => by rcases f with f | f <;> omega), g2, fun q hq => ?_⟩
    have g1 := HF1.out.2.2 (by first | rfl | trivial)
    cases t1 with
    | none => rw [show p1 = none from g1] at hq; cases hq
    | some t0 =>
      obtain ⟨q', _, h4, h5⟩ := g1
      rw [h4] at hq
      injection hq with hq
      injection hq with hq
      subst hq
      exact h5.lt
  clear HC h2 k2 g2
  by_cases he2 : e2 = 0
  rotate_left
  · go_wp2_with fail
    go_ret2
    obtain ⟨rfl, rfl, rfl⟩ := hu2.out.2 he2
    exact ⟨rfl, HF2.out.1, HF2.out.2.1⟩
  subst he2
  replace hu2 := hid (hu2.out.1 rfl)
  obtain ⟨t3, n3, e3, s4, ht3, hu3⟩ : ∃ t n e2 s4, Hid (uni turn0 128 t1 t2 s3 = (((t, n), e2), s4)) ∧ Hid ((e2 = 0 → z = toT t ∧ e = 0 ∧ s1 = s4) ∧ (e2 ≠ 0 → e = e2 ∧ s1 = s4 ∧ z = 0)) := by
    obtain ⟨⟨l, n⟩, f, s2, h1, h2, h3⟩ := bnd_step hu2.out
    exact ⟨l, n, f, s2, hid h1, hid ⟨fun hf => rtn_eq (h2 hf), h3⟩⟩
  have HC : Hid (Calls Try.prog 54 #[.iface 24 (.pointer (some ⟨b, 0, none⟩)), .pointer p1, .pointer p2, .func (.func 83) #[] #[]] w2 fun r w' => ∃ po, r = .returned (.tuple #[.pointer po, .int .i64 e3]) ∧ Hid (WdAt w' b g c s4 ∧ Keeps (two b g) w w' ∧ (e3 = 0 → PtF b g (fun _ => False) w' po t3))) := by
    obtain ⟨a1, a2, a3, a4, a5⟩ := HF2.out
    have a4 := a4 (by first | rfl | trivial)
    have hx := HX.out
    have hsz := HF1.out.2.1.size
    have n1 : ∀ i, p1 = some ⟨i, 0, none⟩ → w.heap.size ≤ i := fun i hi => by
      cases t1 with
      | none => rw [show p1 = none from a3] at hi; cases hi
      | some t0 =>
        obtain ⟨q', h3, h4, h5⟩ := a3
        rw [h4] at hi
        injection hi with hi
        injection hi with hi
        omega
    have n2 : ∀ i, p2 = some ⟨i, 0, none⟩ → w1.heap.size ≤ i := fun i hi => by
      cases t2 with
      | none => rw [show p2 = none from a4] at hi; cases hi
      | some t0 =>
        obtain ⟨q', h3, h4, h5⟩ := a4
        rw [h4] at hi
        injection hi with hi
        injection hi with hi
        omega
    refine hid ((unite_any (turn_nothing b g c) ht3.out a1 trivial (a3.ptF (fun u hu => treF_f (by rw [← hu]; exact ht1.out)) hx) (a4.ptF (fun u hu => treF_f (by rw [← hu]; exact ht2.out)) (by omega)) (fun q hq hq2 => by
      have := a5 q hq
      have := n2 q hq2
      omega)).mono ?_)
    rintro r w' ⟨po, rfl, h1, k1, h2⟩
    refine ⟨po, rfl, hid ⟨h1, a2.step k1 (fun i hi f => ?_), h2⟩⟩
    rcases f with f | f | f | f
    · exact f
    · exact f.elim
    · have := n1 i f; omega
    · have := n2 i f; omega
  go_wp2_with fail
  refine HC.out.mono ?_
  rintro r w3 ⟨p3, rfl, h3⟩
  clear HC HF2 HF1
  by_cases he3 : e3 = 0
  rotate_left
  · go_wp2_with fail
    go_ret2
    obtain ⟨rfl, rfl, rfl⟩ := hu3.out.2 he3
    exact ⟨rfl, h3.out.1, h3.out.2.1⟩
  subst he3
  have HTO := hid (toT_any (h3.out.2.2 rfl).to)
  go_wp2_with fail
  refine HTO.out.mono ?_
  rintro r w4 ⟨rfl, hw4⟩
  subst w4
  go_wp2_with fail
  go_ret2
  obtain ⟨rfl, rfl, rfl⟩ := hu3.out.1 (by first | rfl | trivial)
  exact ⟨rfl, h3.out.1, h3.out.2.1⟩
end Go.Proofs.Ytalopkllldnipaa
