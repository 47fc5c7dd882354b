
/- The walk of way (layer 25). No statement of the seat is proved here. -/
import Derived.Test.YtiacennkjjfifabTmJ
namespace Go.Proofs.Ytiacennkjjfifab
open Go.RowKit

def enC (e : En) : Array Value := #[.int .u64 e.cell, .int .u64 e.word, .int .i64 e.d, .int .i64 e.what, .int .u64 e.leaf, .int .u64 e.key]
def En.v (e : En) : Value := .agg (enC e)
theorem enC_one (e : En) : (enC e).all (·.oneCell') = true := by
  cases e
  kernel_rfl
theorem size_en : (Try.prog.info? 50).map (·.size) = some 6 := by kernel_rfl
theorem setRow_keeps (w : World) (a : Nat) (cs : Array Value) : Keeps (fun q => q = a) w (w.setRow a cs) :=
  ⟨rfl, rfl, rfl, by simp [World.setRow], fun k _ hk => by simp [World.setRow, Array.getElem?_modify, show ¬ a = k from fun e => hk e.symm]⟩
theorem setRow_at {w : World} {q : Nat} {cs0 : Array Value} {t : TypeId} {fr : Nat × Nat} (h : w.heap[q]? = some (.cells cs0 t fr)) (cs : Array Value) : (w.setRow q cs).heap[q]? = some (.cells cs t fr) := by
  simp [World.setRow, Array.getElem?_modify, h]
theorem results_ct {fn : Func} {p u : Tmp} {ty : TypeId} (h : fn.results = #[.cell p ty, .tmp u]) (tmps : Array Value) (P : Program) (w : World) :
    (results fn tmps).run P w = ((asAddr (tmps.getD p undef)).run P w).andThen fun a w₁ => ((loadVar ty a).run P w₁).andThen fun x w₂ => .ok (.tuple #[x, tmps.getD u undef]) w₂ := by
  simp only [results, h]
  simp [Sem.run_bind, Result.andThen]
theorem en_ret {fn : Func} {p u : Tmp} (h : fn.results = #[.cell p 50, .tmp u]) (tmps : Array Value) (w : World) (q : Nat) (e : En) (hb : w.heap[q]? = some (.cells (enC e) 50 (0, 0)))
    (hp : tmps.getD p undef = .pointer (some ⟨q, 0, none⟩)) : (results fn tmps).run Try.prog w = .ok (.tuple #[e.v, tmps.getD u undef]) w := by
  rw [results_ct h, hp]
  simp [asAddr, run_loadVar_row w q 50 50 _ (0, 0) _ hb Try.underlying50 rfl (by rw [size_en]; rfl), Result.andThen]
  rfl
theorem knd_cases (x : Int) : knd x = 0 ∨ knd x = 1 ∨ knd x = 2 := by unfold knd; (repeat' split) <;> omega
theorem whr_isW {x : Int} (h : isW x) : isW (whr x) := by
  have h1 := h.1
  have h2 := h.2
  unfold whr
  (repeat' split) <;> exact ⟨by omega, by omega⟩
/-- What the way ends in are words. -/
structure En.Ok (e : En) : Prop where
  cell : isW e.cell
  word : isW e.word
  leaf : isW e.leaf
  key : isW e.key
  d : e.d < 16
theorem En.zero_ok : En.zero.Ok := ⟨zero_isW, zero_isW, zero_isW, zero_isW, by decide⟩
theorem wayK_ok (k : Int) : ∀ (n : Nat) (at_ : Int) (d : Nat) (s : Wd), s.Ok → d + n ≤ 16 → (wayK k n at_ d s).1.1.Ok ∧ (wayK k n at_ d s).2.Ok ∧ (wayK k n at_ d s).2.L.length ≤ s.L.length + n
  | 0, _, _, s, h, _ => ⟨En.zero_ok, h, Nat.le_refl _⟩
  | n + 1, at_, d, s, h, hd => by
    obtain ⟨⟨⟨x, e⟩, s1⟩, hg⟩ : ∃ r, s.get (uw (at_ + dgK k d)) = r := ⟨_, rfl⟩
    have ok1 : s1.Ok := by have q := (h.get (uw (at_ + dgK k d))).1; rw [hg] at q; exact q
    have hx : isW x := get_isW hg h
    have hl : s1.L.length = s.L.length + 1 := by have q := get_len s (uw (at_ + dgK k d)); rw [hg] at q; exact q
    unfold wayK
    by_cases he : e = 0
    · subst he
      rw [bnd_ok hg]
      by_cases hk : knd x ≠ 2
      · rw [if_pos hk]
        exact ⟨⟨uw_isW _, hx, whr_isW hx, zero_isW, by show d < 16; omega⟩, ok1, by show s1.L.length ≤ _; omega⟩
      · rw [if_neg hk]
        have q := wayK_ok k n (whr x) (d + 1) s1 ok1 (by omega)
        exact ⟨q.1, q.2.1, by have := q.2.2; omega⟩
    · rw [bnd_no hg he]
      exact ⟨En.zero_ok, ok1, by show s1.L.length ≤ _; omega⟩
/-- On a way that began in the world w: the tx, and the box of what is answered. -/
structure Wy (w : World) (b g c : Nat) (X : World) (s : Wd) : Prop where
  hs : Hs 65 w b g c X s
  bx : Lo X b g w.heap.size (.cells (enC En.zero) 50 (0, 0))
section
variable {w X X' : World} {b g c : Nat} {s s' : Wd}
theorem Wy.start (h : WdAt 65 w b g c s) : Wy w b g c (w.alloc (.cells (enC En.zero) 50)) s :=
  ⟨(Hs.start h).new (keeps_new w _), Lo.new h _⟩
theorem Wy.acc (h : Wy w b g c X s) (k : Hs 65 X b g c X' s') : Wy w b g c X' s' := ⟨h.hs.trans k, h.bx.hs k⟩
theorem Wy.out (h : Wy w b g c X s) (cs : Array Value) : Hs 65 w b g c (X.setRow w.heap.size cs) s :=
  h.hs.step (setRow_keeps X w.heap.size cs) (fun i e => by subst e; exact ⟨Nat.le_refl _, h.bx.no⟩)
end
set_option maxHeartbeats 4000000 in
theorem way_any {b g c : Nat} {s s1 : Wd} {at_ k e1 : Int} {E : En} (heq : Hid (wayF at_ k s = ((E, e1), s1))) (rms : Rm s 16) {w : World} (h : WdAt 65 w b g c s) :
    Calls Try.prog 27 #[.iface 62 (.pointer (some ⟨b, 0, none⟩)), .int .u64 at_, .int .u64 k] w fun e w' => e = .returned (.tuple #[E.v, .int .i64 e1]) ∧ Hs 65 w b g c w' s1 := by
  have mg := meth_get b
  have ng := nil_get b
  have HS := hid (Wy.start h)
  have HR := hid rms
  clear rms h
  go_enter Try.func27, Try.ntmps27
  go_wp2_with fail
  refine wp_scope_jumps2 0 (fun a' w' => ∃ (d : Nat) (at1 : Int) (s' : Wd) (u9 u10 u11 u12 u13 u14 u15 u16 u17 u18 u19 u20 u21 u22 u23 u24 u25 u26 u27 u28 u29 u30 u31 u32 u33 u34 u35 u36 u37 u38 u39 u40 u41 u42 u43 u44 u45 u46 u47 : Value), a' = { tmps := #[.iface 62 (.pointer (some ⟨b, 0, none⟩)), .int .u64 at1, .int .u64 k, undef, undef, undef, .pointer (some ⟨w.heap.size, 0, none⟩), .int .i64 0, .int .i64 d, u9, u10, u11, u12, u13, u14, u15, u16, u17, u18, u19, u20, u21, u22, u23, u24, u25, u26, u27, u28, u29, u30, u31, u32, u33, u34, u35, u36, u37, u38, u39, u40, u41, u42, u43, u44, u45, u46, u47], defers := [] } ∧ d < 16 ∧ Hid (Wy w b g c w' s' ∧ wayK k (16 - d) at1 d s' = ((E, e1), s1) ∧ Rm s' (16 - d))) (fun a' _ => 16 - (intOf (a'.tmps.getD 8 undef)).toNat) rfl ?_ ?_
  · rintro a' w1 ⟨d, at1, s', u9, u10, u11, u12, u13, u14, u15, u16, u17, u18, u19, u20, u21, u22, u23, u24, u25, u26, u27, u28, u29, u30, u31, u32, u33, u34, u35, u36, u37, u38, u39, u40, u41, u42, u43, u44, u45, u46, u47, rfl, hd, HJ⟩
    clear HS HR heq
    obtain ⟨m, hm⟩ : ∃ m, 16 - d = m + 1 := ⟨15 - d, by omega⟩
    have hJ2 := HJ.out.2.1
    rw [hm] at hJ2
    unfold wayK at hJ2
    obtain ⟨x, f, s2, e2, h2, h3⟩ := bnd_step hJ2
    have hwx : isW x := get_isW e2 HJ.out.1.hs.wd.ok
    have HE := hid e2
    have H2 := hid h2
    have H3 := hid h3
    have HM := hid hm
    have HD := hid hd
    have hd' : (d : Int) < 16 := by omega
    have hwd : IntKind.i64.wrap ((d : Int) + 1) = ((d + 1 : Nat) : Int) := by rw [IntKind.wrap_i64]; omega
    clear hJ2 e2 h2 h3 hm
    go_wp2_with fail
    refine (digit_any k d HD.out _).mono ?_
    rintro e_ w_ ⟨rfl, hw_⟩
    subst w_
    go_wp2_with fail
    refine (tget_r HE (uw_isW _) (by have q := HJ.out.2.2; rw [HM.out] at q; exact q.le (by omega)) HJ.out.1.hs.wd).mono ?_
    rintro e_ w2 ⟨rfl, k2⟩
    have HW := hid (HJ.out.1.acc k2)
    have HR2 : Hid (Rm s2 m) := by have q := HJ.out.2.2; rw [HM.out] at q; exact hid (q.get HE.out)
    clear k2 HE HJ
    by_cases hf : f = 0
    · subst hf
      have H4 := hid (H2.out rfl)
      clear H2 H3
      go_wp2_with fail
      refine (within_any x hwx _).mono ?_
      rintro e_ w_ ⟨rfl, hw_⟩
      subst w_
      by_cases hk : knd x = 2
      · have hk4 := H4.out
        rw [if_neg (by rw [hk]; simp)] at hk4
        rw [hk]
        by_cases hd15 : d = 15
        · subst hd15
          obtain rfl : m = 0 := by have := HM.out; omega
          obtain ⟨rfl, rfl, rfl⟩ := err_eq hk4
          have hbx := HW.out.bx.at_
          have HF := hid (HW.out.out (enC En.zero))
          have HB := hid (setRow_at hbx (enC En.zero))
          clear hk4 H4
          go_wp2_with (refine wpList_store_row rfl 50 _ _ rfl w.heap.size (enC En.zero) rfl rfl 50 (enC En.zero) hbx (by rw [size_en]; rfl) rfl (enC_one _) ?_)
          try simp only [Exit.jump]
          refine bodyPost_ret (en_ret rfl _ _ w.heap.size En.zero HB.out rfl) rfl ?_
          exact ⟨rfl, HF.out⟩
        · have hne : ((((d + 1 : Nat) : Int)) == 16) = false := by simp; omega
          have HN : Hid (Wy w b g c w2 s2 ∧ wayK k (16 - (d + 1)) (whr x) (d + 1) s2 = ((E, e1), s1) ∧ Rm s2 (16 - (d + 1))) := by
            have := HM.out
            rw [show 16 - (d + 1) = m by omega]
            exact hid ⟨HW.out, hk4, HR2.out⟩
          clear hk4 H4 HW HR2
          go_wp2_with fail
          go_step3
          try simp only [Exit.then]
          refine ⟨rfl, ⟨d + 1, whr x, s2, _, _, _, _, _, _, _, _, _, _, _, _, _, _, _, _, _, _, _, _, _, _, _, _, _, _, _, _, _, _, _, _, _, _, _, _, _, _, _, rfl, by omega, HN⟩, ?_⟩
          simp [intOf]
          omega
      · have hk4 := H4.out
        rw [if_pos hk] at hk4
        obtain ⟨rfl, rfl, rfl⟩ := rtn_eq hk4
        have hkb : (knd x != 2) = true := by simpa using hk
        have hbx := HW.out.bx.at_
        have HF := hid (HW.out.out (enC ⟨uw (at1 + dgK k d), x, d, knd x, whr x, 0⟩))
        have HB := hid (setRow_at hbx (enC ⟨uw (at1 + dgK k d), x, d, knd x, whr x, 0⟩))
        clear hk4 H4 hk
        go_wp2_with (refine wpList_store_row rfl 50 _ _ rfl w.heap.size (enC ⟨uw (at1 + dgK k d), x, d, knd x, whr x, 0⟩) rfl rfl 50 (enC En.zero) hbx (by rw [size_en]; rfl) rfl (enC_one _) ?_)
        try simp only [Exit.jump]
        refine bodyPost_ret (en_ret rfl _ _ w.heap.size ⟨uw (at1 + dgK k d), x, d, knd x, whr x, 0⟩ HB.out rfl) rfl ?_
        exact ⟨rfl, HF.out⟩
    · obtain ⟨rfl, rfl, rfl⟩ := H3.out hf
      have hbx := HW.out.bx.at_
      have HF := hid (HW.out.out (enC En.zero))
      have HB := hid (setRow_at hbx (enC En.zero))
      clear H2 H3
      go_wp2_with (refine wpList_store_row rfl 50 _ _ rfl w.heap.size (enC En.zero) rfl rfl 50 (enC En.zero) hbx (by rw [size_en]; rfl) rfl (enC_one _) ?_)
      try simp only [Exit.jump]
      refine bodyPost_ret (en_ret rfl _ _ w.heap.size En.zero HB.out rfl) rfl ?_
      exact ⟨rfl, HF.out⟩
  · intro HP
    go_wp2_with fail
    refine wp_label ?_
    rename_i K hK
    refine hK _ _ (HP _ _ ⟨0, at_, s, _, _, _, _, _, _, _, _, _, _, _, _, _, _, _, _, _, _, _, _, _, _, _, _, _, _, _, _, _, _, _, _, _, _, _, _, _, _, _, rfl, by omega, hid ⟨HS.out, heq.out, HR.out⟩⟩)
end Go.Proofs.Ytiacennkjjfifab
