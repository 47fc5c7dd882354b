
/- A walk of the document's Order (package parleyref15). No statement of the seat is proved here. -/
import Derived.Test.YtjkileijkgbndaaDoorWiNS
import Derived.Deep.QuietTactic
import Derived.BigQuiet
namespace Go.Proofs.YtjkileijkgbndaaDoor
open Go.RowKit Go.Shelf

theorem ordK_lt {l : List Pt} {n m : Nat} (h : m ∈ ordK l n) : m < n := by
  have := (ordK_perm l n).mem_iff.1 h
  simp at this; exact this.1
theorem ordK_len (l : List Pt) (n : Nat) : (ordK l n).length ≤ n := by
  rw [(ordK_perm l n).length_eq]
  exact Nat.le_trans (List.length_filter_le _ _) (by simp)
/-- A row, a number and a row behind one another in a new row. -/
theorem app3 {W : World} (vs1 vs3 : Value) (A B : List Int) (i : Int) (h1 : ElsAt ciC 1 W vs1 A) (h3 : ElsAt ciC 1 W vs3 B) (hl : A.length + B.length ≤ 70000) :
    ∃ (s1 : Sl) (W1 : World) (s2 : Sl) (W2 : World) (s3 : Sl) (W3 : World), (Builtin.append_ #[31, 31] 31 #[.slice none 0 0, vs1]).run Tryd.prog W = .ok s1.v W1 ∧
      (Builtin.append_ #[31, 31] 31 #[s1.v, .slice (some ⟨W1.heap.size, 0, none⟩) 1 1]).run Tryd.prog (W1.alloc (.cells #[.int .i64 i] 3)) = .ok s2.v W2 ∧
      (Builtin.append_ #[31, 31] 31 #[s2.v, vs3]).run Tryd.prog W2 = .ok s3.v W3 ∧ InR W3 W.heap.size s3.v (A ++ [i] ++ B) ∧ Keeps (fun _ => False) W W3 := by
  obtain ⟨v1, W1, r1, o1, g1⟩ := (OwnR.nil ciC 1 3 W).app cic_len cic_one (by decide) Tryd.underlying31 info_intW rfl (by decide) (ty := 31) vs1 A h1 (by simp; omega)
  obtain ⟨s1, rfl, -⟩ := sl_of o1
  have k1 := OwnR.kept g1 (Keeps.refl _ _) (OwnR.nil ciC 1 3 W)
  obtain ⟨v2, W2, r2, o2, g2⟩ := o1.push cic_len cic_one (by decide) Tryd.underlying31 info_intW rfl (by decide) (ty := 31) i (cs := #[.int .i64 i]) rfl (by simp; omega)
  obtain ⟨s2, rfl, -⟩ := sl_of o2
  have k2 := OwnR.kept g2 k1 o1
  obtain ⟨v3, W3, r3, o3, g3⟩ := o2.app cic_len cic_one (by decide) Tryd.underlying31 info_intW rfl (by decide) (ty := 31) vs3 B (h3.keeps cic_ne k2) (by simp; omega)
  obtain ⟨s3, rfl, -⟩ := sl_of o3
  have k3 := OwnR.kept g3 k2 o2
  exact ⟨s1, W1, s2, W2, s3, W3, r1, r2, r3, by simpa using o3, k3⟩
theorem drop1 {w : World} {g off n cap : Nat} {L : List Int} (h : ElsAt ciC 1 w (.slice (some ⟨g, off, none⟩) n cap) L) (k : Nat) (hk : k ≤ L.length) : ElsAt ciC 1 w (.slice (some ⟨g, off + k, none⟩) (n - k) (cap - k)) (L.drop k) := by
  obtain ⟨a', cap', hv, hl, hc⟩ := h.form
  simp only [Value.slice.injEq] at hv
  obtain ⟨rfl, rfl, rfl⟩ := hv
  refine ⟨some ⟨g, off + k, none⟩, cap - k, by simp, by simp; omega, fun j hj => ?_⟩
  have hj' : k + j < L.length := by simp at hj; omega
  obtain ⟨g', off', ha, q⟩ := hc (k + j) hj'
  simp only [Option.some.injEq, Addr.mk.injEq, and_true] at ha
  obtain ⟨rfl, rfl⟩ := ha
  refine ⟨g, off + k, rfl, fun f x hx => ?_⟩
  have := q f x (by rw [List.getElem_drop] at hx; exact hx)
  rw [show off + k + j * 1 + f = off + (k + j) * 1 + f by omega]; exact this
theorem nil1 (w : World) (a : Option Addr) (c : Nat) : ElsAt ciC 1 w (.slice a 0 c) [] := ⟨a, c, rfl, Nat.zero_le _, fun k hk => by simp at hk⟩
set_option maxRecDepth 100000 in
set_option maxHeartbeats 16000000 in
theorem rordD_any (v : Value) (L : List Ev) (hL : L.length ≤ 60000) (w : World) (hv : EvsAt w v L) : Calls Tryd.prog 13 #[v] w fun ex w' => ∃ u, ex = .returned u ∧ InR w' w.heap.size u (natI (ordK (begP L 0) (begP L 0).length)) ∧ Keeps (fun _ => False) w w' := by
  have RB := rblocks_any v L hL w hv
  have hmx : Tryd.prog.follows .mixedOrders = true := by kernel_rfl
  obtain ⟨a, cap, rfl, hcap⟩ := hv.els.shape
  have hbl := begP_len L 0
  clear hv
  obtain ⟨l, hl⟩ : ∃ l, l = begP L 0 := ⟨_, rfl⟩
  rw [← hl] at hbl ⊢
  unfold RbPost at RB
  rw [← hl] at RB
  clear hl
  go_enter Tryd.func13, Tryd.ntmps13
  go_wp2_with fail
  refine RB.mono ?_
  rintro ex w1 ⟨vv, uu, X, rfl, hB, hX, k1⟩
  clear RB
  obtain ⟨va, vc, rfl⟩ := hB.bl.own.form
  obtain ⟨ua, uc, rfl⟩ := hB.lk.form
  rw [List.length_map] at hB ⊢
  have hXl : l.length = X.length := by rw [← hX]; simp
  have hX6 : X.length ≤ 60000 := by omega
  have hat : ∀ k (hk : k < X.length), at0 l k = (X[k]).p := fun k hk => by rw [← hX]; simp [at0, hk]
  have HB : Hid (∀ Z, Keeps (fun _ => False) w1 Z → ElsAt Bx.cb 9 Z (.slice va X.length vc) X ∧ ElsAt ciC 1 Z (.slice ua X.length uc) (X.map (·.p.si))) := fun Z k => ⟨(hB.bl.own.els cb_len).keeps cb_ne k, (hB.lk.els cic_len).keeps cic_ne k⟩
  have HK : Hid (Keeps (fun _ => False) w w1 ∧ w.heap.size ≤ w1.heap.size ∧ l.length = X.length) := ⟨k1, k1.size, hXl⟩
  have O0 : InR w1 w1.heap.size (.slice none 0 0) (natI (ordK l 0)) := OwnR.nil _ _ _ _
  clear hB hX k1 hXl hbl hL hcap
  go_wp2_with fail
  go_loopw [5, 6] (fun u5 u6 wr => ∃ (i : Nat), u6 = .int .i64 i ∧ i ≤ X.length ∧ Hid (InR wr w1.heap.size u5 (natI (ordK l i))) ∧ Keeps (fun _ => False) w1 wr) (fun _ u6 _ => X.length - (intOf u6).toNat)
  case atStart => exact ⟨0, rfl, Nat.zero_le _, O0, Keeps.refl _ _⟩
  case round =>
    clear O0
    obtain ⟨i, rfl, hi, hO, kr⟩ := hrel
    generalize wr = Wo at *
    obtain ⟨ob, oc, rfl⟩ := hO.out.form
    by_cases hlt : i < X.length
    · have hii : (i : Int) < X.length := by omega
      have hi0 : (0 : Int) ≤ i := by omega
      have hwi : IntKind.i64.wrap ((i : Int) + 1) = (i : Int) + 1 := by rw [IntKind.wrap_i64]; omega
      obtain ⟨gx, offx, rfl, hx⟩ := (HB.out Wo kr).1.at i hlt
      obtain ⟨gl, offl, rfl, hlk⟩ := (HB.out Wo kr).2.at i (by simpa using hlt)
      have hsc := ordK_succ l i
      have hai := hat i hlt
      have RO := rover_any (X[i]) Wo
      rw [← hai] at RO
      have HI : Hid (∀ Z, Keeps (fun _ => False) Wo Z → ∀ f x, (X[i]).cb[f]? = some x → Z.cell? ⟨gx, offx + i * 9 + f, none⟩ = some x) := fun Z kz f x hf => kz.cellB (fun f => f) (hx f x hf)
      have HLK : Hid (∀ Z, Keeps (fun _ => False) Wo Z → Z.cell? ⟨gl, offl + i, none⟩ = some (.int .i64 (at0 l i).si)) := fun Z kz => by
        have := hlk 0 _ rfl
        simp only [List.getElem_map, Nat.mul_one, Nat.add_zero] at this
        rw [hai]; exact kz.cellB (fun f => f) this
      have HS : Hid (∀ m (hm : m < X.length) Z, Keeps (fun _ => False) Wo Z → (∀ f x, (X[m]).cb[f]? = some x → Z.cell? ⟨gx, offx + m * 9 + f, none⟩ = some x) ∧ Z.cell? ⟨gl, offl + m, none⟩ = some (.int .i64 (at0 l m).si) ∧ at0 l m = (X[m]).p) := fun m hm Z kz => by
        obtain ⟨g', o', hgo, h1⟩ := (HB.out Z (kr.trans kz)).1.at m hm
        simp only [Option.some.injEq, Addr.mk.injEq, and_true] at hgo
        obtain ⟨rfl, rfl⟩ := hgo
        obtain ⟨g', o', hgo, h2⟩ := (HB.out Z (kr.trans kz)).2.at m (by simpa using hm)
        simp only [Option.some.injEq, Addr.mk.injEq, and_true] at hgo
        obtain ⟨rfl, rfl⟩ := hgo
        have h3 := h2 0 _ rfl
        simp only [List.getElem_map, Nat.mul_one, Nat.add_zero] at h3
        exact ⟨h1, by rw [hat m hm]; exact h3, hat m hm⟩
      generalize hxx : X[i]'hlt = xx at *
      obtain ⟨p, ⟨ra, rn, rc⟩, ⟨sa, sn, sc⟩⟩ := xx
      dsimp only at hai
      rw [hai] at RO HLK hsc
      have z0 := hx 0 _ rfl
      have z1 := hx 1 _ rfl
      have z2 := hx 2 _ rfl
      have z3 := hx 3 _ rfl
      have z4 := hx 4 _ rfl
      have z5 := hx 5 _ rfl
      have z6 := hx 6 _ rfl
      have z7 := hx 7 _ rfl
      have z8 := hx 8 _ rfl
      simp only [Nat.add_zero] at z0
      dsimp only at z0 z1 z2 z3 z4 z5 z6 z7 z8
      have HOL : Hid ((natI (ordK l i)).length ≤ i) := by unfold Hid; have := ordK_len l i; simpa [natI] using this
      have HXX : Hid (X[i]'hlt = ⟨p, ⟨ra, rn, rc⟩, ⟨sa, sn, sc⟩⟩ ∧ at0 l i = p) := ⟨hxx, hai⟩
      clear hx hlk hat hxx hai
      cases hov : overB p with
      | false =>
        rw [hov] at RO hsc
        have HF : Hid (InR Wo w1.heap.size (.slice ob (natI (ordK l i)).length oc) (natI (ordK l (i + 1)))) := by rw [hsc]; exact hO.out
        clear hsc hO HOL
        go_wp2_with fail
        refine RO.mono ?_
        rintro ex w2 ⟨rfl, k2⟩
        have HG : Hid (InR w2 w1.heap.size (.slice ob (natI (ordK l i)).length oc) (natI (ordK l (i + 1))) ∧ Keeps (fun _ => False) w1 w2) := ⟨HF.out.keeps k2 (fun _ _ f => f), kr.trans k2⟩
        clear RO k2 z0 z1 z2 z3 z4 z5 z6 z7 z8
        go_wp2_with fail
        go_roundw
        · exact ⟨i + 1, by simp, by omega, HG.out.1, HG.out.2⟩
        · simp [intOf]; omega
      | true =>
        rw [hov] at RO hsc
        have HSC : Hid (ordK l (i + 1) = insO (befI l) i (ordK l i)) := hsc
        obtain ⟨n3, hn3⟩ : ∃ n3, n3 = (natI (ordK l i)).length := ⟨_, rfl⟩
        rw [← hn3] at hO HOL ⊢
        have HN : Hid (n3 = (natI (ordK l i)).length) := hn3
        clear hsc hn3
        have hn6 : n3 ≤ 60000 := by have := HOL.out; omega
        go_wp2_with fail
        refine RO.mono ?_
        rintro ex w2 ⟨rfl, k2⟩
        have HG : Hid (InR w2 w1.heap.size (.slice ob n3 oc) (natI (ordK l i)) ∧ Keeps (fun _ => False) w1 w2 ∧ Keeps (fun _ => False) Wo w2) := ⟨hO.out.keeps k2 (fun _ _ f => f), kr.trans k2, k2⟩
        clear RO k2 z0 z1 z2 z3 z4 z5 z6 z7 z8 hO
        go_wp2_with fail
        go_loopw [8] (fun u8 wr => ∃ (k : Nat), u8 = .int .i64 k ∧ k ≤ n3 ∧ Hid (∀ x ∈ (ordK l i).take k, befI l i x = false) ∧ Keeps (fun _ => False) w2 wr) (fun u8 _ => n3 - (intOf u8).toNat)
        case atStart => exact ⟨0, rfl, Nat.zero_le _, fun x hx => by simp at hx, Keeps.refl _ _⟩
        case round =>
          obtain ⟨k, rfl, hk, hA, kq⟩ := hrel
          have hkN : IntKind.i64.wrap ((k : Int) + 1) = (k : Int) + 1 := by rw [IntKind.wrap_i64]; omega
          by_cases hlk : k < n3
          · have hkl : k < (natI (ordK l i)).length := by rw [← HN.out]; exact hlk
            have hkO : k < (ordK l i).length := by simpa [natI] using hkl
            obtain ⟨go, gc, cur, hgo, -, -, -⟩ := HG.out.1.at (by omega)
            simp only [Value.slice.injEq] at hgo
            obtain ⟨rfl, -, -⟩ := hgo
            have hki : (k : Int) < n3 := by omega
            have hk0 : (0 : Int) ≤ k := by omega
            have hkt : ((k : Int) < (n3 : Int)) = True := by simp [hki]
            obtain ⟨m, hm⟩ : ∃ m, m = (ordK l i)[k]'hkO := ⟨_, rfl⟩
            have hmi : m < i := ordK_lt (hm ▸ List.getElem_mem hkO)
            have hmX : m < X.length := by omega
            have hmi' : (m : Int) < X.length := by omega
            have hm0 : (0 : Int) ≤ m := by omega
            have kw := HG.out.2.2.trans kq
            have hout : ∀ Z, Keeps (fun _ => False) wr Z → Z.cell? ⟨go, k, none⟩ = some (.int .i64 (m : Int)) := fun Z kz => by
              obtain ⟨g', o', hgo, h1⟩ := ((HG.out.1.els cic_len).keeps cic_ne (kq.trans kz)).at k hkl
              rcases HG.out.1.own.2 with ⟨hv, _⟩ | ⟨g2, cap2, cur2, hv, _⟩
              · cases hv
              · simp only [Value.slice.injEq, Option.some.injEq, Addr.mk.injEq, and_true] at hv hgo
                have h3 := h1 0 _ rfl
                rw [← hgo.1, ← hgo.2] at h3
                simp only [Nat.mul_one, Nat.add_zero, Nat.zero_add] at h3
                rw [h3, hm]
                simp [natI]
            obtain ⟨hy, hyl, hym⟩ := HS.out m hmX wr kw
            have HC : Hid (∀ W : World, Keeps (fun _ => False) wr W → (W.cell? ⟨gx, offx + i * 9, none⟩ = some (.int .i64 p.th) ∧ W.cell? ⟨gx, offx + i * 9 + 1, none⟩ = some (.int .i64 p.kd) ∧ W.cell? ⟨gx, offx + i * 9 + 2, none⟩ = some (.int .i64 p.fi) ∧ W.cell? ⟨gx, offx + i * 9 + 3, none⟩ = some (.int .i64 p.la) ∧ W.cell? ⟨gx, offx + i * 9 + 4, none⟩ = some (.int .u64 p.nu) ∧ W.cell? ⟨gx, offx + i * 9 + 5, none⟩ = some (.bool p.wr) ∧ W.cell? ⟨gx, offx + i * 9 + 6, none⟩ = some (.int .i64 p.er) ∧ W.cell? ⟨gx, offx + i * 9 + 7, none⟩ = some (.slice ra rn rc) ∧ W.cell? ⟨gx, offx + i * 9 + 8, none⟩ = some (.slice sa sn sc)) ∧ (W.cell? ⟨gx, offx + m * 9, none⟩ = some (.int .i64 (X[m]).p.th) ∧ W.cell? ⟨gx, offx + m * 9 + 1, none⟩ = some (.int .i64 (X[m]).p.kd) ∧ W.cell? ⟨gx, offx + m * 9 + 2, none⟩ = some (.int .i64 (X[m]).p.fi) ∧ W.cell? ⟨gx, offx + m * 9 + 3, none⟩ = some (.int .i64 (X[m]).p.la) ∧ W.cell? ⟨gx, offx + m * 9 + 4, none⟩ = some (.int .u64 (X[m]).p.nu) ∧ W.cell? ⟨gx, offx + m * 9 + 5, none⟩ = some (.bool (X[m]).p.wr) ∧ W.cell? ⟨gx, offx + m * 9 + 6, none⟩ = some (.int .i64 (X[m]).p.er) ∧ W.cell? ⟨gx, offx + m * 9 + 7, none⟩ = some (X[m]).r.v ∧ W.cell? ⟨gx, offx + m * 9 + 8, none⟩ = some (X[m]).s.v) ∧ W.cell? ⟨gl, offl + i, none⟩ = some (.int .i64 p.si) ∧ W.cell? ⟨gl, offl + m, none⟩ = some (.int .i64 (X[m]).p.si) ∧ W.cell? ⟨go, k, none⟩ = some (.int .i64 (m : Int))) := fun W kz => by
              have h := HI.out W (kw.trans kz)
              have e : ∀ f x, (X[m]).cb[f]? = some x → W.cell? ⟨gx, offx + m * 9 + f, none⟩ = some x := fun f x hf => kz.cellB (fun f => f) (hy f x hf)
              refine ⟨⟨?_, h 1 _ rfl, h 2 _ rfl, h 3 _ rfl, h 4 _ rfl, h 5 _ rfl, h 6 _ rfl, h 7 _ rfl, h 8 _ rfl⟩, ⟨?_, e 1 _ rfl, e 2 _ rfl, e 3 _ rfl, e 4 _ rfl, e 5 _ rfl, e 6 _ rfl, e 7 _ rfl, e 8 _ rfl⟩, HLK.out W (kw.trans kz), ?_, hout W kz⟩
              · have := h 0 _ rfl
                simpa using this
              · have := e 0 _ rfl
                simpa using this
              · rw [← hym]; exact kz.cellB (fun f => f) hyl
            have hbb : befI l i m = befB p (X[m]).p := by unfold befI; rw [HXX.out.2, hym]
            have BF0 := fun W => rbefore_any ⟨p, ⟨ra, rn, rc⟩, ⟨sa, sn, sc⟩⟩ (X[m]) W
            generalize X[m]'hmX = yy at *
            obtain ⟨q, ⟨ta, tn, tc⟩, ⟨ua, un, uc'⟩⟩ := yy
            obtain ⟨bb, hb⟩ : ∃ bb, bb = befB p q := ⟨_, rfl⟩
            dsimp only at BF0 hbb HC
            rw [← hb] at hbb BF0
            have BF := BF0 wr.drew
            have HBB : Hid (befI l i m = bb ∧ m = (ordK l i)[k]'hkO) := ⟨hbb, hm⟩
            have kd := (Keeps.refl (fun _ => False) wr).drew
            clear BF0 hout hy hyl hym hm hbb hb hkt
            go_wp2_with fail
            refine wp_heldE (S := fun W : World => Keeps (fun _ => False) wr W) 30 rfl hmx ?_
            simp only [Array.replicate_succ, Array.replicate_zero, List.push_toArray, List.nil_append, List.cons_append]
            refine held_take (i := 0) (v := (.int .i64 (k : Int))) 28 rfl rfl (by kernel_rfl) (by kernel_rfl) (by kernel_rfl) rfl (fun w' hw' => by obtain ⟨⟨x0, x1, x2, x3, x4, x5, x6, x7, x8⟩, ⟨y0, y1, y2, y3, y4, y5, y6, y7, y8⟩, xl, yl, xo⟩ := HC.out w' hw'; go_simp) kd ?_
            simp only [Act.put, List.setIfInBounds_toArray, List.set_cons_zero, List.set_cons_succ]
            refine held_take (i := 1) (v := (.slice (some ⟨go, 0, none⟩) n3 oc)) 29 rfl rfl (by kernel_rfl) (by kernel_rfl) (by kernel_rfl) rfl (fun w' hw' => by obtain ⟨⟨x0, x1, x2, x3, x4, x5, x6, x7, x8⟩, ⟨y0, y1, y2, y3, y4, y5, y6, y7, y8⟩, xl, yl, xo⟩ := HC.out w' hw'; go_simp) kd ?_
            simp only [Act.put, List.setIfInBounds_toArray, List.set_cons_zero, List.set_cons_succ]
            refine held_take (i := 2) (v := (.int .i64 (n3 : Int))) 30 rfl rfl (by kernel_rfl) (by kernel_rfl) (by kernel_rfl) rfl (fun w' hw' => by obtain ⟨⟨x0, x1, x2, x3, x4, x5, x6, x7, x8⟩, ⟨y0, y1, y2, y3, y4, y5, y6, y7, y8⟩, xl, yl, xo⟩ := HC.out w' hw'; go_simp) kd ?_
            simp only [Act.put, List.setIfInBounds_toArray, List.set_cons_zero, List.set_cons_succ]
            refine held_take (i := 3) (v := (.bool true)) 31 rfl rfl (by kernel_rfl) (by kernel_rfl) (by kernel_rfl) rfl (fun w' hw' => by obtain ⟨⟨x0, x1, x2, x3, x4, x5, x6, x7, x8⟩, ⟨y0, y1, y2, y3, y4, y5, y6, y7, y8⟩, xl, yl, xo⟩ := HC.out w' hw'; go_simp) kd ?_
            simp only [Act.put, List.setIfInBounds_toArray, List.set_cons_zero, List.set_cons_succ]
            refine held_take (i := 4) (v := (.bool true)) 32 rfl rfl (by kernel_rfl) (by kernel_rfl) (by kernel_rfl) rfl (fun w' hw' => by obtain ⟨⟨x0, x1, x2, x3, x4, x5, x6, x7, x8⟩, ⟨y0, y1, y2, y3, y4, y5, y6, y7, y8⟩, xl, yl, xo⟩ := HC.out w' hw'; go_simp) kd ?_
            simp only [Act.put, List.setIfInBounds_toArray, List.set_cons_zero, List.set_cons_succ]
            refine held_take (i := 5) (v := (.slice (some ⟨gx, offx, none⟩) X.length vc)) 33 rfl rfl (by kernel_rfl) (by kernel_rfl) (by kernel_rfl) rfl (fun w' hw' => by obtain ⟨⟨x0, x1, x2, x3, x4, x5, x6, x7, x8⟩, ⟨y0, y1, y2, y3, y4, y5, y6, y7, y8⟩, xl, yl, xo⟩ := HC.out w' hw'; go_simp) kd ?_
            simp only [Act.put, List.setIfInBounds_toArray, List.set_cons_zero, List.set_cons_succ]
            refine held_take (i := 6) (v := (.int .i64 (i : Int))) 34 rfl rfl (by kernel_rfl) (by kernel_rfl) (by kernel_rfl) rfl (fun w' hw' => by obtain ⟨⟨x0, x1, x2, x3, x4, x5, x6, x7, x8⟩, ⟨y0, y1, y2, y3, y4, y5, y6, y7, y8⟩, xl, yl, xo⟩ := HC.out w' hw'; go_simp) kd ?_
            simp only [Act.put, List.setIfInBounds_toArray, List.set_cons_zero, List.set_cons_succ]
            refine held_take (i := 7) (v := (.pointer (some ⟨gx, offx + i * 9, none⟩))) 35 rfl rfl (by kernel_rfl) (by kernel_rfl) (by kernel_rfl) rfl (fun w' hw' => by obtain ⟨⟨x0, x1, x2, x3, x4, x5, x6, x7, x8⟩, ⟨y0, y1, y2, y3, y4, y5, y6, y7, y8⟩, xl, yl, xo⟩ := HC.out w' hw'; go_simp) kd ?_
            simp only [Act.put, List.setIfInBounds_toArray, List.set_cons_zero, List.set_cons_succ]
            refine held_take (i := 8) (v := (.agg #[.int .i64 p.th, .int .i64 p.kd, .int .i64 p.fi, .int .i64 p.la, .int .u64 p.nu, .bool p.wr, .int .i64 p.er, .slice ra rn rc, .slice sa sn sc])) 36 rfl rfl (by kernel_rfl) (by kernel_rfl) (by kernel_rfl) rfl (fun w' hw' => by obtain ⟨⟨x0, x1, x2, x3, x4, x5, x6, x7, x8⟩, ⟨y0, y1, y2, y3, y4, y5, y6, y7, y8⟩, xl, yl, xo⟩ := HC.out w' hw'; go_simp) kd ?_
            simp only [Act.put, List.setIfInBounds_toArray, List.set_cons_zero, List.set_cons_succ]
            refine held_take (i := 9) (v := (.slice (some ⟨gl, offl, none⟩) X.length uc)) 37 rfl rfl (by kernel_rfl) (by kernel_rfl) (by kernel_rfl) rfl (fun w' hw' => by obtain ⟨⟨x0, x1, x2, x3, x4, x5, x6, x7, x8⟩, ⟨y0, y1, y2, y3, y4, y5, y6, y7, y8⟩, xl, yl, xo⟩ := HC.out w' hw'; go_simp) kd ?_
            simp only [Act.put, List.setIfInBounds_toArray, List.set_cons_zero, List.set_cons_succ]
            refine held_take (i := 10) (v := (.int .i64 (i : Int))) 38 rfl rfl (by kernel_rfl) (by kernel_rfl) (by kernel_rfl) rfl (fun w' hw' => by obtain ⟨⟨x0, x1, x2, x3, x4, x5, x6, x7, x8⟩, ⟨y0, y1, y2, y3, y4, y5, y6, y7, y8⟩, xl, yl, xo⟩ := HC.out w' hw'; go_simp) kd ?_
            simp only [Act.put, List.setIfInBounds_toArray, List.set_cons_zero, List.set_cons_succ]
            refine held_take (i := 11) (v := (.pointer (some ⟨gl, offl + i, none⟩))) 39 rfl rfl (by kernel_rfl) (by kernel_rfl) (by kernel_rfl) rfl (fun w' hw' => by obtain ⟨⟨x0, x1, x2, x3, x4, x5, x6, x7, x8⟩, ⟨y0, y1, y2, y3, y4, y5, y6, y7, y8⟩, xl, yl, xo⟩ := HC.out w' hw'; go_simp) kd ?_
            simp only [Act.put, List.setIfInBounds_toArray, List.set_cons_zero, List.set_cons_succ]
            refine held_take (i := 12) (v := (.int .i64 p.si)) 40 rfl rfl (by kernel_rfl) (by kernel_rfl) (by kernel_rfl) rfl (fun w' hw' => by obtain ⟨⟨x0, x1, x2, x3, x4, x5, x6, x7, x8⟩, ⟨y0, y1, y2, y3, y4, y5, y6, y7, y8⟩, xl, yl, xo⟩ := HC.out w' hw'; go_simp) kd ?_
            simp only [Act.put, List.setIfInBounds_toArray, List.set_cons_zero, List.set_cons_succ]
            refine held_take (i := 13) (v := (.slice (some ⟨gx, offx, none⟩) X.length vc)) 41 rfl rfl (by kernel_rfl) (by kernel_rfl) (by kernel_rfl) rfl (fun w' hw' => by obtain ⟨⟨x0, x1, x2, x3, x4, x5, x6, x7, x8⟩, ⟨y0, y1, y2, y3, y4, y5, y6, y7, y8⟩, xl, yl, xo⟩ := HC.out w' hw'; go_simp) kd ?_
            simp only [Act.put, List.setIfInBounds_toArray, List.set_cons_zero, List.set_cons_succ]
            refine held_take (i := 14) (v := (.slice (some ⟨go, 0, none⟩) n3 oc)) 42 rfl rfl (by kernel_rfl) (by kernel_rfl) (by kernel_rfl) rfl (fun w' hw' => by obtain ⟨⟨x0, x1, x2, x3, x4, x5, x6, x7, x8⟩, ⟨y0, y1, y2, y3, y4, y5, y6, y7, y8⟩, xl, yl, xo⟩ := HC.out w' hw'; go_simp) kd ?_
            simp only [Act.put, List.setIfInBounds_toArray, List.set_cons_zero, List.set_cons_succ]
            refine held_take (i := 15) (v := (.int .i64 (k : Int))) 43 rfl rfl (by kernel_rfl) (by kernel_rfl) (by kernel_rfl) rfl (fun w' hw' => by obtain ⟨⟨x0, x1, x2, x3, x4, x5, x6, x7, x8⟩, ⟨y0, y1, y2, y3, y4, y5, y6, y7, y8⟩, xl, yl, xo⟩ := HC.out w' hw'; go_simp) kd ?_
            simp only [Act.put, List.setIfInBounds_toArray, List.set_cons_zero, List.set_cons_succ]
            refine held_take (i := 16) (v := (.pointer (some ⟨go, k, none⟩))) 44 rfl rfl (by kernel_rfl) (by kernel_rfl) (by kernel_rfl) rfl (fun w' hw' => by obtain ⟨⟨x0, x1, x2, x3, x4, x5, x6, x7, x8⟩, ⟨y0, y1, y2, y3, y4, y5, y6, y7, y8⟩, xl, yl, xo⟩ := HC.out w' hw'; go_simp) kd ?_
            simp only [Act.put, List.setIfInBounds_toArray, List.set_cons_zero, List.set_cons_succ]
            refine held_take (i := 17) (v := (.int .i64 (m : Int))) 45 rfl rfl (by kernel_rfl) (by kernel_rfl) (by kernel_rfl) rfl (fun w' hw' => by obtain ⟨⟨x0, x1, x2, x3, x4, x5, x6, x7, x8⟩, ⟨y0, y1, y2, y3, y4, y5, y6, y7, y8⟩, xl, yl, xo⟩ := HC.out w' hw'; go_simp) kd ?_
            simp only [Act.put, List.setIfInBounds_toArray, List.set_cons_zero, List.set_cons_succ]
            refine held_take (i := 18) (v := (.pointer (some ⟨gx, offx + m * 9, none⟩))) 46 rfl rfl (by kernel_rfl) (by kernel_rfl) (by kernel_rfl) rfl (fun w' hw' => by obtain ⟨⟨x0, x1, x2, x3, x4, x5, x6, x7, x8⟩, ⟨y0, y1, y2, y3, y4, y5, y6, y7, y8⟩, xl, yl, xo⟩ := HC.out w' hw'; go_simp) kd ?_
            simp only [Act.put, List.setIfInBounds_toArray, List.set_cons_zero, List.set_cons_succ]
            refine held_take (i := 19) (v := (.agg #[.int .i64 q.th, .int .i64 q.kd, .int .i64 q.fi, .int .i64 q.la, .int .u64 q.nu, .bool q.wr, .int .i64 q.er, .slice ta tn tc, .slice ua un uc'])) 47 rfl rfl (by kernel_rfl) (by kernel_rfl) (by kernel_rfl) rfl (fun w' hw' => by obtain ⟨⟨x0, x1, x2, x3, x4, x5, x6, x7, x8⟩, ⟨y0, y1, y2, y3, y4, y5, y6, y7, y8⟩, xl, yl, xo⟩ := HC.out w' hw'; go_simp) kd ?_
            simp only [Act.put, List.setIfInBounds_toArray, List.set_cons_zero, List.set_cons_succ]
            refine held_take (i := 20) (v := (.slice (some ⟨gl, offl, none⟩) X.length uc)) 48 rfl rfl (by kernel_rfl) (by kernel_rfl) (by kernel_rfl) rfl (fun w' hw' => by obtain ⟨⟨x0, x1, x2, x3, x4, x5, x6, x7, x8⟩, ⟨y0, y1, y2, y3, y4, y5, y6, y7, y8⟩, xl, yl, xo⟩ := HC.out w' hw'; go_simp) kd ?_
            simp only [Act.put, List.setIfInBounds_toArray, List.set_cons_zero, List.set_cons_succ]
            refine held_take (i := 21) (v := (.slice (some ⟨go, 0, none⟩) n3 oc)) 49 rfl rfl (by kernel_rfl) (by kernel_rfl) (by kernel_rfl) rfl (fun w' hw' => by obtain ⟨⟨x0, x1, x2, x3, x4, x5, x6, x7, x8⟩, ⟨y0, y1, y2, y3, y4, y5, y6, y7, y8⟩, xl, yl, xo⟩ := HC.out w' hw'; go_simp) kd ?_
            simp only [Act.put, List.setIfInBounds_toArray, List.set_cons_zero, List.set_cons_succ]
            refine held_take (i := 22) (v := (.int .i64 (k : Int))) 50 rfl rfl (by kernel_rfl) (by kernel_rfl) (by kernel_rfl) rfl (fun w' hw' => by obtain ⟨⟨x0, x1, x2, x3, x4, x5, x6, x7, x8⟩, ⟨y0, y1, y2, y3, y4, y5, y6, y7, y8⟩, xl, yl, xo⟩ := HC.out w' hw'; go_simp) kd ?_
            simp only [Act.put, List.setIfInBounds_toArray, List.set_cons_zero, List.set_cons_succ]
            refine held_take (i := 23) (v := (.pointer (some ⟨go, k, none⟩))) 51 rfl rfl (by kernel_rfl) (by kernel_rfl) (by kernel_rfl) rfl (fun w' hw' => by obtain ⟨⟨x0, x1, x2, x3, x4, x5, x6, x7, x8⟩, ⟨y0, y1, y2, y3, y4, y5, y6, y7, y8⟩, xl, yl, xo⟩ := HC.out w' hw'; go_simp) kd ?_
            simp only [Act.put, List.setIfInBounds_toArray, List.set_cons_zero, List.set_cons_succ]
            refine held_take (i := 24) (v := (.int .i64 (m : Int))) 52 rfl rfl (by kernel_rfl) (by kernel_rfl) (by kernel_rfl) rfl (fun w' hw' => by obtain ⟨⟨x0, x1, x2, x3, x4, x5, x6, x7, x8⟩, ⟨y0, y1, y2, y3, y4, y5, y6, y7, y8⟩, xl, yl, xo⟩ := HC.out w' hw'; go_simp) kd ?_
            simp only [Act.put, List.setIfInBounds_toArray, List.set_cons_zero, List.set_cons_succ]
            refine held_take (i := 25) (v := (.pointer (some ⟨gl, offl + m, none⟩))) 53 rfl rfl (by kernel_rfl) (by kernel_rfl) (by kernel_rfl) rfl (fun w' hw' => by obtain ⟨⟨x0, x1, x2, x3, x4, x5, x6, x7, x8⟩, ⟨y0, y1, y2, y3, y4, y5, y6, y7, y8⟩, xl, yl, xo⟩ := HC.out w' hw'; go_simp) kd ?_
            simp only [Act.put, List.setIfInBounds_toArray, List.set_cons_zero, List.set_cons_succ]
            refine held_take (i := 26) (v := (.int .i64 q.si)) 54 rfl rfl (by kernel_rfl) (by kernel_rfl) (by kernel_rfl) rfl (fun w' hw' => by obtain ⟨⟨x0, x1, x2, x3, x4, x5, x6, x7, x8⟩, ⟨y0, y1, y2, y3, y4, y5, y6, y7, y8⟩, xl, yl, xo⟩ := HC.out w' hw'; go_simp) kd ?_
            simp only [Act.put, List.setIfInBounds_toArray, List.set_cons_zero, List.set_cons_succ]
            refine held_call (i := 27) (f := 23) (args := #[(.agg #[.int .i64 p.th, .int .i64 p.kd, .int .i64 p.fi, .int .i64 p.la, .int .u64 p.nu, .bool p.wr, .int .i64 p.er, .slice ra rn rc, .slice sa sn sc]), .int .i64 p.si, (.agg #[.int .i64 q.th, .int .i64 q.kd, .int .i64 q.fi, .int .i64 q.la, .int .u64 q.nu, .bool q.wr, .int .i64 q.er, .slice ta tn tc, .slice ua un uc']), .int .i64 q.si]) 55 (by kernel_rfl) rfl rfl rfl (by go_simp) (BF.mono ?_)
            rintro ex w3 ⟨rfl, k3⟩
            have kd3 := kd.trans k3
            refine ⟨_, rfl, kd3, ?_⟩
            simp only [Act.put, List.setIfInBounds_toArray, List.set_cons_zero, List.set_cons_succ]
            refine held_take (i := 28) (v := .bool (!bb)) 56 rfl rfl (by kernel_rfl) (by kernel_rfl) (by kernel_rfl) rfl (fun w' hw' => by go_simp) kd3 ?_
            simp only [Act.put, List.setIfInBounds_toArray, List.set_cons_zero, List.set_cons_succ]
            refine held_take (i := 29) (v := .bool (!bb)) 57 rfl rfl (by kernel_rfl) (by kernel_rfl) (by kernel_rfl) rfl (fun w' hw' => by go_simp) kd3 ?_
            simp only [Act.put, List.setIfInBounds_toArray, List.set_cons_zero, List.set_cons_succ]
            refine held_end (by kernel_rfl) ?_ _
            clear HC BF kd
            have kq3 := kq.trans kd3
            cases bb with
            | false =>
              have HF : Hid (∀ x ∈ (ordK l i).take (k + 1), befI l i x = false) := fun x hx => by
                rw [List.take_succ_eq_append_getElem hkO] at hx
                rcases List.mem_append.1 hx with hx | hx
                · exact hA.out x hx
                · simp only [List.mem_singleton] at hx
                  rw [hx, ← HBB.out.2]; exact HBB.out.1
              clear HBB hA k3 kd3
              go_wp2_with fail
              go_roundw
              · exact ⟨k + 1, by simp, by omega, HF.out, kq3⟩
              · simp [intOf]; omega
            | true =>
              have HD : Hid (insO (befI l) i (ordK l i) = (ordK l i).take k ++ i :: (ordK l i).drop k) := by
                have h := insO_at (f := befI l) (i := i) ((ordK l i).take k) ((ordK l i).drop k) hA.out (.inr ⟨_, _, List.drop_eq_getElem_cons hkO, by rw [← HBB.out.2]; exact HBB.out.1⟩)
                rw [List.take_append_drop] at h
                exact h
              have hoc : n3 ≤ oc := by
                rcases HG.out.1.own.2 with ⟨hv, _⟩ | ⟨g2, cap2, cur2, hv, _, _, q1, _⟩
                · cases hv
                · simp only [Value.slice.injEq] at hv
                  rw [← HN.out, ← hv.2.2] at q1; exact q1
              have hkc : (k : Int) ≤ (oc : Int) := by omega
              have hk3 : (k : Int) ≤ (n3 : Int) := by omega
              have hnc : (n3 : Int) ≤ (oc : Int) := by omega
              have hnk : ¬ oc = k := by omega
              have hnk' : ¬ k = oc := by omega
              have kw3 := HG.out.2.1.trans kq3
              have hEl : ElsAt ciC 1 w3 (.slice (some ⟨go, 0, none⟩) n3 oc) (natI (ordK l i)) := (HG.out.1.els cic_len).keeps cic_ne kq3
              have hE1 := hEl.take k (by rw [← HN.out]; omega)
              have hE3 := drop1 hEl k (by rw [← HN.out]; omega)
              rw [Nat.zero_add] at hE3
              obtain ⟨⟨a1, b1, c1⟩, W1, ⟨a2, b2, c2⟩, W2, ⟨a3, b3, c3⟩, W3, r1, r2, r3, o3, k3'⟩ := app3 _ _ _ _ (i : Int) hE1 hE3 (by simp only [List.length_take, List.length_drop]; rw [← HN.out]; omega)
              have H1 : Hid (_ = _) := r1
              have H2 : Hid (_ = _) := r2
              have H3 : Hid (_ = _) := r3
              have HF : Hid (InR W3 w1.heap.size (.slice a3 b3 c3) (natI (ordK l (i + 1))) ∧ Keeps (fun _ => False) w1 W3) := by
                refine ⟨?_, kw3.trans k3'⟩
                rw [HSC.out, HD.out]
                have := o3.low kw3.size
                simpa [natI] using this
              clear HBB hA k3 kd3 r1 r2 r3 o3 k3' hE1 hE3 hEl
              go_wp2_with (first
                | (at_builtin; have q1 := H1.out; refine wpList_append_run rfl _ _ 31 rfl rfl rfl q1 ?_; clear q1 H1)
                | (at_builtin; have q2 := H2.out; refine wpList_append_run rfl _ _ 31 rfl rfl rfl q2 ?_; clear q2 H2)
                | (at_builtin; have q3 := H3.out; refine wpList_append_run rfl _ _ 31 rfl rfl rfl q3 ?_; clear q3 H3))
              go_roundw
              · exact ⟨i + 1, by simp, by omega, HF.out.1, HF.out.2⟩
              · simp [intOf]; omega
          · obtain rfl : k = n3 := by omega
            have hki : ¬ ((k : Int) < (k : Int)) := by omega
            have HD : Hid (insO (befI l) i (ordK l i) = ordK l i ++ [i]) := by
              have hl2 : (ordK l i).length = k := by have := HN.out; simp [natI] at this; omega
              have h := insO_at (f := befI l) (i := i) (ordK l i) [] (by have := hA.out; rw [List.take_of_length_le (by omega)] at this; exact this) (.inl rfl)
              rw [List.append_nil] at h
              exact h
            clear hA
            go_wp2_with fail
            go_quiet (fail)
            have kq3 := kq.drewN nq
            generalize wr.drewN nq = w3 at *
            have kw3 := HG.out.2.1.trans kq3
            cases ob with
            | none =>
              obtain ⟨hn0, hc0, hO0⟩ : k = 0 ∧ oc = 0 ∧ ordK l i = [] := by
                rcases HG.out.1.own.2 with ⟨hv, h2⟩ | ⟨g2, cap2, cur2, hv, _⟩
                · simp only [Value.slice.injEq] at hv
                  exact ⟨hv.2.1, hv.2.2, List.length_eq_zero_iff.1 (by simpa [natI] using h2)⟩
                · cases hv
              have hE1 : ElsAt ciC 1 w3 (.slice none 0 0) (natI (ordK l i)) := by rw [hO0]; exact nil1 _ _ _
              have hE3 := nil1 w3 none 0
              subst hc0
              subst hn0
              clear hO0
              obtain ⟨⟨a1, b1, c1⟩, W1, ⟨a2, b2, c2⟩, W2, ⟨a3, b3, c3⟩, W3, r1, r2, r3, o3, k3'⟩ := app3 _ _ _ _ (i : Int) hE1 hE3 (by have := ordK_len l i; simp [natI] <;> omega)
              have H1 : Hid (_ = _) := r1
              have H2 : Hid (_ = _) := r2
              have H3 : Hid (_ = _) := r3
              have HF : Hid (InR W3 w1.heap.size (.slice a3 b3 c3) (natI (ordK l (i + 1))) ∧ Keeps (fun _ => False) w1 W3) := by
                refine ⟨?_, kw3.trans k3'⟩
                rw [HSC.out, HD.out]
                have := o3.low kw3.size
                simpa [natI] using this
              clear r1 r2 r3 o3 k3' hE1 hE3
              go_wp2_with (first
                | (at_builtin; have q1 := H1.out; refine wpList_append_run rfl _ _ 31 rfl rfl rfl q1 ?_; clear q1 H1)
                | (at_builtin; have q2 := H2.out; refine wpList_append_run rfl _ _ 31 rfl rfl rfl q2 ?_; clear q2 H2)
                | (at_builtin; have q3 := H3.out; refine wpList_append_run rfl _ _ 31 rfl rfl rfl q3 ?_; clear q3 H3))
              go_roundw
              · exact ⟨i + 1, by simp, by omega, HF.out.1, HF.out.2⟩
              · simp [intOf]; omega
            | some oa =>
              have hoa : oa.off = 0 ∧ oa.spot = none ∧ k ≤ oc := by
                rcases HG.out.1.own.2 with ⟨hv, h2⟩ | ⟨g2, cap2, cur2, hv, _, _, q1, _⟩
                · cases hv
                · simp only [Value.slice.injEq, Option.some.injEq] at hv
                  rw [hv.1]
                  exact ⟨rfl, rfl, by rw [hv.2.2, HN.out]; exact q1⟩
              obtain ⟨go, oo, os⟩ := oa
              obtain ⟨rfl, rfl, hoc⟩ := hoa
              have hkc : (k : Int) ≤ (oc : Int) := by omega
              have hE1 : ElsAt ciC 1 w3 (.slice (some ⟨go, 0, none⟩) k oc) (natI (ordK l i)) := (HG.out.1.els cic_len).keeps cic_ne kq3
              by_cases hok : oc = k
              · subst hok
                have hE3 := nil1 w3 (some ⟨go, 0, none⟩) 0
                obtain ⟨⟨a1, b1, c1⟩, W1, ⟨a2, b2, c2⟩, W2, ⟨a3, b3, c3⟩, W3, r1, r2, r3, o3, k3'⟩ := app3 _ _ _ _ (i : Int) hE1 hE3 (by have := ordK_len l i; simp [natI] <;> omega)
                have H1 : Hid (_ = _) := r1
                have H2 : Hid (_ = _) := r2
                have H3 : Hid (_ = _) := r3
                have HF : Hid (InR W3 w1.heap.size (.slice a3 b3 c3) (natI (ordK l (i + 1))) ∧ Keeps (fun _ => False) w1 W3) := by
                  refine ⟨?_, kw3.trans k3'⟩
                  rw [HSC.out, HD.out]
                  have := o3.low kw3.size
                  simpa [natI] using this
                clear r1 r2 r3 o3 k3' hE1 hE3
                go_wp2_with (first
                  | (at_builtin; have q1 := H1.out; refine wpList_append_run rfl _ _ 31 rfl rfl rfl q1 ?_; clear q1 H1)
                  | (at_builtin; have q2 := H2.out; refine wpList_append_run rfl _ _ 31 rfl rfl rfl q2 ?_; clear q2 H2)
                  | (at_builtin; have q3 := H3.out; refine wpList_append_run rfl _ _ 31 rfl rfl rfl q3 ?_; clear q3 H3))
                go_roundw
                · exact ⟨i + 1, by simp, by omega, HF.out.1, HF.out.2⟩
                · simp [intOf]; omega
              · have hok' : ¬ k = oc := fun e => hok e.symm
                have hE3 := nil1 w3 (some ⟨go, k, none⟩) (oc - k)
                obtain ⟨⟨a1, b1, c1⟩, W1, ⟨a2, b2, c2⟩, W2, ⟨a3, b3, c3⟩, W3, r1, r2, r3, o3, k3'⟩ := app3 _ _ _ _ (i : Int) hE1 hE3 (by have := ordK_len l i; simp [natI] <;> omega)
                have H1 : Hid (_ = _) := r1
                have H2 : Hid (_ = _) := r2
                have H3 : Hid (_ = _) := r3
                have HF : Hid (InR W3 w1.heap.size (.slice a3 b3 c3) (natI (ordK l (i + 1))) ∧ Keeps (fun _ => False) w1 W3) := by
                  refine ⟨?_, kw3.trans k3'⟩
                  rw [HSC.out, HD.out]
                  have := o3.low kw3.size
                  simpa [natI] using this
                clear r1 r2 r3 o3 k3' hE1 hE3
                go_wp2_with (first
                  | (at_builtin; have q1 := H1.out; refine wpList_append_run rfl _ _ 31 rfl rfl rfl q1 ?_; clear q1 H1)
                  | (at_builtin; have q2 := H2.out; refine wpList_append_run rfl _ _ 31 rfl rfl rfl q2 ?_; clear q2 H2)
                  | (at_builtin; have q3 := H3.out; refine wpList_append_run rfl _ _ 31 rfl rfl rfl q3 ?_; clear q3 H3))
                go_roundw
                · exact ⟨i + 1, by simp, by omega, HF.out.1, HF.out.2⟩
                · simp [intOf]; omega
    · obtain rfl : i = X.length := by omega
      have HF : Hid (InR Wo w.heap.size (.slice ob (natI (ordK l X.length)).length oc) (natI (ordK l l.length)) ∧ Keeps (fun _ => False) w Wo) := by
        rw [HK.out.2.2]
        exact ⟨hO.out.low HK.out.2.1, HK.out.1.trans kr⟩
      clear hO
      go_wp2_with fail
      go_ret
      exact ⟨.slice ob (natI (ordK l X.length)).length oc, rfl, HF.out⟩
end Go.Proofs.YtjkileijkgbndaaDoor
