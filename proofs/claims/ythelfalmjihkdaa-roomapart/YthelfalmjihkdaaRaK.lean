
/- A round of RoomApart, whole (layer 20). No statement of the seat is proved here. -/
import Derived.Test.YthelfalmjihkdaaRaJ
import Derived.Test.YthelfalmjihkdaaRmDe
import Derived.Test.YthelfalmjihkdaaRaL
import Derived.Test.YthelfalmjihkdaaARoundC
namespace Go.Proofs.Ythelfalmjihkdaa
open Go Go.RowKit

set_option maxRecDepth 1000000 in
set_option maxHeartbeats 16000000 in
theorem round_any (f0 f1 c0 c1 : Int) (hb1 : 0 ≤ f1 ∧ f1 < 20) (hb2 : 0 ≤ c1 ∧ c1 < 200) (gs off n c t b g cg ab k : Nat) (hkn : k < n) (hn : n * 16 ≤ 140737488351232) (w wz : World) (HP : Hid (w.heap.size ≤ t ∧ w.heap.size ≤ b ∧ w.heap.size ≤ g)) (HAB : Hid (w.heap.size ≤ ab)) (ho : PsAt w (some ⟨gs, off, none⟩) n) (Q : Exit → Act → World → Prop) (hI : ∀ T w', Fx f0 f1 c0 c1 gs off n c t ab ((k + 1 : Nat) : Int) T → St w t b g cg ab f1 c1 (k + 1) (k + 1) (20 + 20 * ((k : Int) + 1)) (T.getD 8 undef) w' → Q .normal ⟨T, []⟩ w')
    (T : Array Value) (hF : Fx f0 f1 c0 c1 gs off n c t ab (k : Int) T) (hS : St w t b g cg ab f1 c1 k k (20 + 20 * (k : Int)) (T.getD 8 undef) wz) : Code.wp Try.prog bodyC Q ⟨T, []⟩ wz := by
  refine frame_all (G := fun T => Fx f0 f1 c0 c1 gs off n c t ab (k : Int) T → St w t b g cg ab f1 c1 k k (20 + 20 * (k : Int)) (T.getD 8 undef) wz → Code.wp Try.prog bodyC Q ⟨T, []⟩ wz) ?_ T hF.1 hF hS
  clear hF hS T
  intro u0 u1 u2 u3 u4 u5 u6 u7 u8 u9 u10 u11 u12 u13 u14 u15 u16 u17 u18 u19 u20 u21 u22 u23 u24 u25 u26 u27 u28 u29 u30 u31 u32 u33 u34 u35 u36 u37 u38 u39 u40 u41 u42 u43 u44 u45 u46 u47 u48 u49 u50 u51 u52 u53 u54 u55 u56 u57 u58 u59 u60 u61 u62 u63 u64 u65 u66 u67 u68 u69 u70 u71 u72 u73 u74 u75 u76 u77 u78 u79 u80 u81 u82 u83 u84 u85 u86 u87 u88 u89 u90 u91 u92 u93 u94 u95 u96 u97 u98 u99 u100 u101 u102 u103 u104 u105 u106 u107 u108 u109 u110 u111 u112 u113 u114 u115 u116 u117 u118 u119 u120 u121 u122 u123 u124 u125 u126 u127 u128 u129 u130 u131 u132 u133 u134 u135 u136 u137 u138 u139 u140 u141 u142 u143 u144 u145 u146 u147 u148 u149 u150 u151 u152 u153 u154 u155 u156 u157 u158 u159 u160 u161 u162 u163 u164 u165 u166 u167 u168 u169 u170 u171 u172 u173 u174 u175 u176 u177 u178 u179 u180 u181 u182 u183 u184 u185 u186 u187 u188 u189 u190 u191 u192 u193 u194 u195 u196 u197 u198 u199 u200 u201 u202 u203 u204 u205 u206 u207 u208 u209 u210 u211 u212 u213 u214 u215 u216 u217 u218 u219 u220 u221 u222 u223 u224 u225 u226 u227 hF hS
  obtain ⟨_, g0, g1, g2, g3, g4, g5, g7, g9, g10, g22, g23, g24, g25, g26, g27, g28, g29, g30, g31, g32, g33, g34, g35, g36⟩ := hF
  replace g0 : u0 = .int .u64 (18 + f1) := g0
  replace g1 : u1 = .int .u64 c1 := g1
  replace g2 : u2 = .slice (some ⟨gs, off, none⟩) n c := g2
  replace g3 : u3 = undef := g3
  replace g4 : u4 = undef := g4
  replace g5 : u5 = undef := g5
  replace g7 : u7 = .pointer (some ⟨t, 0, none⟩) := g7
  replace g9 : u9 = .pointer (some ⟨ab, 0, none⟩) := g9
  replace g10 : u10 = .int .i64 k := g10
  replace g22 : u22 = .int .u64 f0 := g22
  replace g23 : u23 = .int .u64 f1 := g23
  replace g24 : u24 = .int .u64 (18 + f1) := g24
  replace g25 : u25 = .int .u64 c0 := g25
  replace g26 : u26 = .int .u64 c1 := g26
  replace g27 : u27 = .pointer (some ⟨t, 0, none⟩) := g27
  replace g28 : u28 = .pointer (some ⟨t, 0, none⟩) := g28
  replace g29 : u29 = .iface 24 (.pointer (some ⟨t, 0, none⟩)) := g29
  replace g30 : u30 = .int .u64 (18 + f1) := g30
  replace g31 : u31 = .int .u64 (18 + f1) := g31
  replace g32 : u32 = .int .u64 c1 := g32
  replace g33 : u33 = .int .u64 (18 + f1 + c1) := g33
  replace g34 : u34 = .int .i64 0 := g34
  replace g35 : u35 = .int .i64 0 := g35
  replace g36 : u36 = .bool false := g36
  replace hS : St w t b g cg ab f1 c1 k k (20 + 20 * (k : Int)) u8 wz := hS
  subst g0 g1 g2 g3 g4 g5 g7 g9 g10 g22 g23 g24 g25 g26 g27 g28 g29 g30 g31 g32 g33 g34 g35 g36
  obtain ⟨M, hM⟩ : ∃ M : Act → World → Prop, M = fun a w' => a.defers = [] ∧ Fx f0 f1 c0 c1 gs off n c t ab (k : Int) a.tmps ∧ St w t b g cg ab f1 c1 k (k + 1) (24 + 20 * (k : Int)) (a.tmps.getD 8 undef) w' := ⟨_, rfl⟩
  have HM := hid hM
  clear hM
  have HLA : Hid (∀ T w', Fx f0 f1 c0 c1 gs off n c t ab (k : Int) T → St w t b g cg ab f1 c1 (k + 1) (k + 1) (20 + 20 * ((k : Int) + 1)) (T.getD 8 undef) w' → Code.wp Try.prog lastC Q ⟨T, []⟩ w') := fun T w' hF hS => last_any f0 f1 c0 c1 gs off n c t ab k hkn hn w' Q T hF (fun T' hF' he => hI T' w' hF' (by rw [he]; exact hS))
  conv => arg 2; whnf
  refine wp_mid M ?first ?rest
  case rest =>
    intro a w' hq
    rw [HM.out] at hq
    obtain ⟨TT, DD⟩ := a
    obtain ⟨hD, hF, hS⟩ := hq
    dsimp only at hD hF hS
    subst hD
    exact rest_any f0 f1 c0 c1 hb1 hb2 gs off n c t b g cg ab k hkn hn w w' HP HAB ho _ (fun T w'' h1 h2 => HLA.out T w'' h1 h2) (fun T w'' h1 h2 => HLA.out T w'' h1 h2) TT hF hS
  case first =>
    clear HLA hI
    obtain ⟨s, O, vb, bk, hA, hR, hL, hOl, hbl, hK⟩ := hS
    obtain ⟨ao, co, hu8⟩ := hA.out.form
    subst hu8
    obtain ⟨_, _, hgs, sz, bb, hsz, d0, d1⟩ := (ho.keeps hK) k hkn
    cases hgs
    have hki : (k : Int) < (n : Int) := by omega
    clear hsz d0 ho
    by_cases hO : (O.length : Int) ≤ 0
    · have HF : Hid (St w t b g cg ab f1 c1 k (k + 1) (24 + 20 * (k : Int)) (.slice ao O.length co) wz) := hid ⟨s, O, vb, bk, hA, hR, hL.more (by omega) (by omega), hOl, fun m => Nat.le_succ_of_le (hbl m), hK⟩
      have hd1 : decide (0 < (O.length : Int)) = false := decide_eq_false (by omega)
      have hd0 : decide (0 < O.length) = false := decide_eq_false (by omega)
      clear hA hR hL hOl hbl hK d1
      go_wp2_with fail
      rw [HM.out]
      exact ⟨rfl, ⟨rfl, rfl, rfl, rfl, rfl, rfl, rfl, rfl, rfl, rfl, rfl, rfl, rfl, rfl, rfl, rfl, rfl, rfl, rfl, rfl, rfl, rfl, rfl, rfl, rfl⟩, HF.out⟩
    · by_cases hbb : bb ≤ 0
      · have HF : Hid (St w t b g cg ab f1 c1 k (k + 1) (24 + 20 * (k : Int)) (.slice ao O.length co) wz) := hid ⟨s, O, vb, bk, hA, hR, hL.more (by omega) (by omega), hOl, fun m => Nat.le_succ_of_le (hbl m), hK⟩
        replace hO : (0 : Int) < (O.length : Int) := by omega
        have hd1 : decide (0 < (O.length : Int)) = true := decide_eq_true (by omega)
        have hd0 : decide (0 < O.length) = true := decide_eq_true (by omega)
        have hd2 : decide (0 < bb) = false := decide_eq_false (by omega)
        clear hA hR hL hOl hbl hK
        go_wp2_with fail
        rw [HM.out]
        exact ⟨rfl, ⟨rfl, rfl, rfl, rfl, rfl, rfl, rfl, rfl, rfl, rfl, rfl, rfl, rfl, rfl, rfl, rfl, rfl, rfl, rfl, rfl, rfl, rfl, rfl, rfl, rfl⟩, HF.out⟩
      · skip
        replace hO : (0 : Int) < (O.length : Int) := by omega
        replace hbb : 0 < bb := by omega
        have hd1 : decide (0 < (O.length : Int)) = true := decide_eq_true (by omega)
        have hd0 : decide (0 < O.length) = true := decide_eq_true (by omega)
        have hd2 : decide (0 < bb) = true := decide_eq_true (by omega)
        have hne : (O.length : Int) ≠ 0 := by omega
        have hbd : 0 ≤ bb.tmod (O.length : Int) ∧ bb.tmod (O.length : Int) < (O.length : Int) := by
          rw [Int.tmod_eq_emod_of_nonneg (by omega)]
          exact ⟨Int.emod_nonneg _ hne, Int.emod_lt_of_pos _ (by omega)⟩
        obtain ⟨j, hjm⟩ : ∃ j : Nat, bb.tmod (O.length : Int) = (j : Int) := ⟨(bb.tmod (O.length : Int)).toNat, by omega⟩
        rw [hjm] at hbd
        have hjl : j < O.length := by omega
        obtain ⟨p, hp⟩ : ∃ p, O[j]? = some p := ⟨_, List.getElem?_eq_getElem hjl⟩
        obtain ⟨gq, cq, hq, q0, q1⟩ := hA.out.at hp
        injection hq with hq1 hq2 hq3
        subst hq1
        subst hq3
        obtain ⟨p1, p2⟩ := p
        dsimp only at q0 q1
        have hpin := hR.oin _ (List.mem_of_getElem? hp)
        have hpn1 := hR.nx1
        dsimp only at hpin
        obtain ⟨nn, hnn⟩ : ∃ nn : Nat, p2 = (nn : Int) := ⟨p2.toNat, by have q := hpin.2.1.1; omega⟩
        subst hnn
        have hnn1 : 1 ≤ nn := by have q := hpin.2.1.1; omega
        have hnn2 : nn ≤ 16 := by have q := hpin.2.1.2; omega
        have hwp : isW p1 := ⟨by omega, by omega⟩
        have hG := hR.give_ok hL (by omega) nn hnn1 hnn2 p1 (List.mem_of_getElem? hp)
        obtain ⟨s3, hs3⟩ : ∃ x, ud s.dec.dec.dec ((s.W.set p1.toNat (oat s.W (1 + nn))).set (1 + nn) (p1 + 1)) = x := ⟨_, rfl⟩
        have hR3 := hR.gave nn hnn1 hnn2 p1 j hp s3 (by rw [← hs3]; rfl)
        have hL3 : Lk s3 (24 + 20 * (k : Int)) := by rw [← hs3]; exact ((((hL.dec (by omega)).dec (by omega)).dec (by omega)).ud _).more (by omega) (by omega)
        rw [hs3] at hG
        have HEG := hid hG
        have HR3 := hid hR3
        have HL3 := hid hL3
        clear hG hs3 hR3 hL3 hpin hpn1
        have hco : O.length ≤ co := by
          rcases hA.out with ⟨e, _⟩ | ⟨_, _, _, e, _, _, h3, _⟩
          · cases e
          · injection e with e1 e2 e3; subst e3; exact h3
        have HA := hid hA
        have HR := hid hR
        have HL := hid hL
        have HQ : Hid (O.length ≤ k ∧ ∀ m, (bk m).length ≤ k) := ⟨hOl, hbl⟩
        have HK := hid hK
        have HPJ := hid hp
        have hjn : (j : Int) < (O.length : Int) := by omega
        have hob : (O.length : Int) < 8796093022208 := by omega
        clear hA hR hL hOl hbl hK hp hq2
        go_wp2_with fail
        have hjc : (j : Int) ≤ (co : Int) := by omega
        have hjo : (j : Int) + 1 ≤ (O.length : Int) := by omega
        have hoc : (O.length : Int) ≤ (co : Int) := by omega
        refine wp_region_tail 8 (by kernel_rfl) (by kernel_rfl) ?_
        simp only [List.take_succ_cons, List.take_zero, List.drop_succ_cons, List.drop_zero]
        repeat (go_big_quiet_step (fail))
        refine wpQuiet_nil ?_
        intro _ hw'
        obtain ⟨nq, hw''⟩ := hw'
        subst hw''
        try simp only [World.drewN_drewN]
        have hAY : Ap ((wz.alloc (.cells #[.int .u64 p1, .int .u64 (nn : Int)] 46)).drewN nq) w.heap.size t b g cg ab s (.slice (some ⟨gq, 0, none⟩) O.length co) O vb bk := (HA.out.new ((Keeps.refl _ _).alloc _)).new ((Keeps.refl _ _).drewN nq)
        obtain ⟨v1, y1, hrun, ho1, kk1, hn1⟩ := hAY.out.cut2 hAY.base (by omega) hjl hco (co - (j + 1))
        have HRU := hid hrun
        have HA1 : Hid (Ap y1 w.heap.size t b g cg ab s v1 (O.eraseIdx j) vb bk) := hAY.outs (kk1.mono fun _ _ f => f.elim) ho1 (fun q hq => (hn1 q hq).imp (fun e => by rw [e]; rfl) id)
        have hpb : y1.heap[wz.heap.size]? = some (.cells #[.int .u64 p1, .int .u64 (nn : Int)] 46 (0, 0)) := (kk1.block wz.heap.size (by simp) (fun f => f)).trans (alloc_block wz _)
        have z0 : y1.cell? ⟨wz.heap.size, 0, none⟩ = some (.int .u64 p1) := cell_of_block hpb 0
        have z1 : y1.cell? ⟨wz.heap.size, 1, none⟩ = some (.int .u64 (nn : Int)) := cell_of_block hpb 1
        have HK1 : Hid (Keeps (fun _ => False) w y1) := (((HK.out.alloc _).drewN nq).trans kk1)
        have HPB := hid hpb
        have HV : Hid (∀ m, m < 17 → ∀ q, (vb m).ownBlock = some q → q < wz.heap.size) := fun m hm q hq => (own_block (HA.out.rows m hm) hq).1
        have HZZ : Hid (wz.heap.size ≠ b ∧ wz.heap.size ≠ g ∧ wz.heap.size ≠ ab ∧ w.heap.size ≤ wz.heap.size ∧ wz.heap.size < y1.heap.size) := by
          have l := HA.out.lts
          have l2 := lt_of_block hpb
          exact ⟨by omega, by omega, by omega, HK.out.size, l2⟩
        clear hrun ho1 kk1 hn1 hAY hpb HK
        refine wpList_append_run rfl _ _ 42 rfl rfl rfl HRU.out ?_
        clear HRU
        simp only [Act.put, List.setIfInBounds_toArray, List.set_cons_zero, List.set_cons_succ]
        repeat (first | go_values | go_skip | go_guarded | go_step | go_upon | go_back)
        have hh := HA1.out.tw
        refine (give_r HEG hwp hh).mono ?_
        rintro e_ y2 ⟨rfl, h2, k2⟩
        have HA2 := hid (HA1.out.own h2 k2)
        have hpb2 : y2.heap[wz.heap.size]? = some (.cells #[.int .u64 p1, .int .u64 (nn : Int)] 46 (0, 0)) := (k2.block wz.heap.size HZZ.out.2.2.2.2 (fun e => by have q := HZZ.out; rcases e with e | e <;> omega)).trans HPB.out
        have y0c : y2.cell? ⟨wz.heap.size, 0, none⟩ = some (.int .u64 p1) := cell_of_block hpb2 0
        have y1c : y2.cell? ⟨wz.heap.size, 1, none⟩ = some (.int .u64 (nn : Int)) := cell_of_block hpb2 1
        have HK2 : Hid (Keeps (fun _ => False) w y2) := HK1.out.step k2 (fun q hq e => by have p := HP.out; rcases e with rfl | rfl <;> omega)
        clear hh h2 k2 z0 z1 HPB HK1 HEG
        dsimp only
        repeat (first | go_values | go_skip | go_guarded | go_step | go_upon | go_back)
        refine (num_any _ _).mono ?_
        rintro e_ w_ ⟨rfl, hw_⟩
        subst w_
        dsimp only
        repeat (first | go_values | go_skip | go_guarded | go_step | go_upon | go_back)
        have hAd : Ap y2.drew w.heap.size t b g cg ab s3 v1 (O.eraseIdx j) vb bk := HA2.out.new ((Keeps.refl _ _).drewN 1)
        obtain ⟨v2, y3, hrun2, hr3, k3, hn3⟩ := (hAd.rows nn (by omega)).push2 hAd.base (by have q := HQ.out.2 nn; omega) p1
        have hA3 := hAd.row (by omega) k3 hr3 hn3
        have e3 : y3.cell? ⟨ab, nn, none⟩ = some (vb nn) := (World.cell?_of_block (k3.block ab hAd.ltab (fun e => (hAd.a3 nn (by omega) _ e).2.2.2.1 rfl))).trans (hAd.cell (by omega))
        have e4 : y3.frozen? ⟨ab, nn, none⟩ = false := frozen_of_block ((k3.block ab hAd.ltab (fun e => (hAd.a3 nn (by omega) _ e).2.2.2.1 rfl)).trans hAd.arr) nn
        have hpv : (vb nn).ownBlock ≠ some wz.heap.size := fun e => by
          have q := HV.out nn (by omega) _ e
          omega
        have hpb3 : y3.heap[wz.heap.size]? = some (.cells #[.int .u64 p1, .int .u64 (nn : Int)] 46 (0, 0)) := (k3.block wz.heap.size (lt_of_block hpb2) hpv).trans hpb2
        have S0 : (y2.drew.cell? ⟨wz.heap.size, 0, none⟩ = some (.int .u64 p1) ∧ y2.drew.cell? ⟨wz.heap.size, 1, none⟩ = some (.int .u64 (nn : Int)) ∧ y2.drew.cell? ⟨ab, nn, none⟩ = some (vb nn)) := ⟨y0c, y1c, HA2.out.cell (by omega)⟩
        have S1 : ((y2.drew.alloc (.cells #[.int .u64 p1] 31)).cell? ⟨wz.heap.size, 0, none⟩ = some (.int .u64 p1) ∧ (y2.drew.alloc (.cells #[.int .u64 p1] 31)).cell? ⟨wz.heap.size, 1, none⟩ = some (.int .u64 (nn : Int)) ∧ (y2.drew.alloc (.cells #[.int .u64 p1] 31)).cell? ⟨ab, nn, none⟩ = some (vb nn)) := ⟨(Keeps.refl (fun _ => False) y2.drew).alloc _ |>.block _ (lt_of_block hpb2) (fun f => f) |> World.cell?_of_block |>.trans y0c, (Keeps.refl (fun _ => False) y2.drew).alloc _ |>.block _ (lt_of_block hpb2) (fun f => f) |> World.cell?_of_block |>.trans y1c, (hAd.new ((Keeps.refl _ _).alloc _)).cell (by omega)⟩
        have S3 : (y3.cell? ⟨wz.heap.size, 0, none⟩ = some (.int .u64 p1) ∧ y3.cell? ⟨wz.heap.size, 1, none⟩ = some (.int .u64 (nn : Int)) ∧ y3.cell? ⟨ab, nn, none⟩ = some (vb nn)) := ⟨cell_of_block hpb3 0, cell_of_block hpb3 1, e3⟩
        obtain ⟨av2, cv2, hv2⟩ := hr3.form
        subst hv2
        have HRU2 : Hid ((Builtin.append_ #[22, 22] 22 #[vb nn, .slice (some ⟨y2.heap.size, 0, none⟩) 1 1]).run Try.prog (y2.drew.alloc (.cells #[.int .u64 p1] 31)) = .ok (.slice av2 (bk nn ++ [p1]).length cv2) y3) := hrun2
        have HFF : Hid (St w t b g cg ab f1 c1 k (k + 1) (24 + 20 * (k : Int)) v1 (y3.setCell ⟨ab, nn, none⟩ (.slice av2 (bk nn ++ [p1]).length cv2))) := hid ⟨s3, O.eraseIdx j, _, _, hA3, HR3.out, HL3.out, Nat.le_trans (List.length_eraseIdx_le O j) HQ.out.1, fun m => by
          by_cases hm : m = nn
          · subst hm; rw [updL_same]; have q := HQ.out.2 m; simp; omega
          · rw [updL_other _ _ hm]; exact Nat.le_succ_of_le (HQ.out.2 m), (HK2.out.drewN 1).step k3 (fun q hq e => by have p := (own_block (hAd.rows nn (by omega)) e).2; omega) |>.step (T := fun q => q = ab) ((Keeps.refl (fun q => q = ab) y3).setCell (p := ⟨ab, nn, none⟩) (.inr rfl) _) (fun q hq e => by have p := HAB.out; omega)⟩
        clear hrun2 hr3 k3 hn3 hA3 hAd hpb2 hpb3 hpv y0c y1c
        refine wp_until (S := (fun W : World => (W.cell? ⟨wz.heap.size, 0, none⟩ = some (.int .u64 p1) ∧ W.cell? ⟨wz.heap.size, 1, none⟩ = some (.int .u64 (nn : Int)) ∧ W.cell? ⟨ab, nn, none⟩ = some (vb nn)))) 11 12 rfl (by kernel_rfl) ?_
        simp only [Array.replicate_succ, Array.replicate_zero, List.push_toArray, List.nil_append, List.cons_append]
        refine u_take (i := 0) (v := (.pointer (some ⟨wz.heap.size, 1, none⟩))) 84 rfl rfl (by kernel_rfl) (by kernel_rfl) (by kernel_rfl) (by kernel_rfl) rfl (fun w' hw' => by obtain ⟨q0, q1, q2⟩ := hw'; go_simp) S0 ?_
        simp only [Act.put, List.setIfInBounds_toArray, List.set_cons_zero, List.set_cons_succ]
        refine u_take (i := 1) (v := (.int .u64 (nn : Int))) 85 rfl rfl (by kernel_rfl) (by kernel_rfl) (by kernel_rfl) (by kernel_rfl) rfl (fun w' hw' => by obtain ⟨q0, q1, q2⟩ := hw'; go_simp) S0 ?_
        simp only [Act.put, List.setIfInBounds_toArray, List.set_cons_zero, List.set_cons_succ]
        refine u_take (i := 2) (v := (.pointer (some ⟨wz.heap.size, 1, none⟩))) 86 rfl rfl (by kernel_rfl) (by kernel_rfl) (by kernel_rfl) (by kernel_rfl) rfl (fun w' hw' => by obtain ⟨q0, q1, q2⟩ := hw'; go_simp) S0 ?_
        simp only [Act.put, List.setIfInBounds_toArray, List.set_cons_zero, List.set_cons_succ]
        refine u_take (i := 3) (v := (.int .u64 (nn : Int))) 87 rfl rfl (by kernel_rfl) (by kernel_rfl) (by kernel_rfl) (by kernel_rfl) rfl (fun w' hw' => by obtain ⟨q0, q1, q2⟩ := hw'; go_simp) S0 ?_
        simp only [Act.put, List.setIfInBounds_toArray, List.set_cons_zero, List.set_cons_succ]
        refine u_take (i := 4) (v := (.pointer (some ⟨ab, nn, none⟩))) 88 rfl rfl (by kernel_rfl) (by kernel_rfl) (by kernel_rfl) (by kernel_rfl) rfl (fun w' hw' => by obtain ⟨q0, q1, q2⟩ := hw'; go_simp; intro hh9; exfalso; omega) S0 ?_
        simp only [Act.put, List.setIfInBounds_toArray, List.set_cons_zero, List.set_cons_succ]
        refine u_take (i := 5) (v := (vb nn)) 89 rfl rfl (by kernel_rfl) (by kernel_rfl) (by kernel_rfl) (by kernel_rfl) rfl (fun w' hw' => by obtain ⟨q0, q1, q2⟩ := hw'; go_simp) S0 ?_
        simp only [Act.put, List.setIfInBounds_toArray, List.set_cons_zero, List.set_cons_succ]
        refine u_take (i := 6) (v := (.pointer (some ⟨wz.heap.size, 0, none⟩))) 90 rfl rfl (by kernel_rfl) (by kernel_rfl) (by kernel_rfl) (by kernel_rfl) rfl (fun w' hw' => by obtain ⟨q0, q1, q2⟩ := hw'; go_simp) S0 ?_
        simp only [Act.put, List.setIfInBounds_toArray, List.set_cons_zero, List.set_cons_succ]
        refine u_take (i := 7) (v := (.int .u64 p1)) 91 rfl rfl (by kernel_rfl) (by kernel_rfl) (by kernel_rfl) (by kernel_rfl) rfl (fun w' hw' => by obtain ⟨q0, q1, q2⟩ := hw'; go_simp) S0 ?_
        simp only [Act.put, List.setIfInBounds_toArray, List.set_cons_zero, List.set_cons_succ]
        refine u_val (i := 8) (v := .slice (some ⟨y2.heap.size, 0, none⟩) 1 1) (w' := y2.drew.alloc (.cells #[.int .u64 p1] 31)) (some 92) (by kernel_rfl) rfl rfl rfl (by go_simp) S1 ?_
        simp only [Act.put, List.setIfInBounds_toArray, List.set_cons_zero, List.set_cons_succ]
        refine u_val (i := 9) (v := .slice av2 (bk nn ++ [p1]).length cv2) (w' := y3) (some 93) (by kernel_rfl) rfl rfl rfl (run_append_op rfl rfl rfl HRU2.out) S3 ?_
        simp only [Act.put, List.setIfInBounds_toArray, List.set_cons_zero, List.set_cons_succ]
        refine u_val (i := 10) (v := .pointer (some ⟨ab, nn, none⟩)) (w' := y3) (some 94) (by kernel_rfl) rfl rfl rfl (by go_simp; intro hh9; exfalso; omega) S3 ?_
        simp only [Act.put, List.setIfInBounds_toArray, List.set_cons_zero, List.set_cons_succ]
        refine u_last (w' := y3.setCell ⟨ab, nn, none⟩ (.slice av2 (bk nn ++ [p1]).length cv2)) (by kernel_rfl) rfl rfl rfl (by go_simp) (by kernel_rfl) ?_
        repeat (first | go_values | go_skip | go_guarded | go_step | go_upon | go_back)
        rw [HM.out]
        exact ⟨rfl, ⟨rfl, rfl, rfl, rfl, rfl, rfl, rfl, rfl, rfl, rfl, rfl, rfl, rfl, rfl, rfl, rfl, rfl, rfl, rfl, rfl, rfl, rfl, rfl, rfl, rfl⟩, HFF.out⟩
end Go.Proofs.Ythelfalmjihkdaa
