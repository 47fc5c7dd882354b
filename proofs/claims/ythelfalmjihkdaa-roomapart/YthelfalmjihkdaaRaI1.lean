
/- A round of RoomApart, its second part (layer 20). No statement of the seat is proved here. -/
import Derived.Test.YthelfalmjihkdaaRaG
import Derived.Test.YthelfalmjihkdaaRmDd
import Derived.Test.YthelfalmjihkdaaRmDf
import Derived.Test.YthelfalmjihkdaaRmN
import Derived.Test.YthelfalmjihkdaaASeg
namespace Go.Proofs.Ythelfalmjihkdaa
open Go Go.RowKit

set_option maxRecDepth 1000000 in
set_option maxHeartbeats 16000000 in
theorem rest_no (f0 f1 c0 c1 : Int) (hb1 : 0 ≤ f1 ∧ f1 < 20) (hb2 : 0 ≤ c1 ∧ c1 < 200) (gs off n c t b g cg ab k : Nat) (hkn : k < n) (hn : n * 16 ≤ 140737488351232) (w wz : World) (HP : Hid (w.heap.size ≤ t ∧ w.heap.size ≤ b ∧ w.heap.size ≤ g)) (_HAB : Hid (w.heap.size ≤ ab)) (sz : Int) (d0 : wz.cell? ⟨gs, off + k * 2, none⟩ = some (.int .u64 sz)) (zn : Nat) (hzn : sz.tmod 16 = (zn : Int)) (hzl : zn < 16) (s : Wd) (O : List (Int × Int)) (ao : Option Addr) (co : Nat) (vb : Nat → Value) (bk : Nat → List Int) (HA : Hid (Ap wz w.heap.size t b g cg ab s (.slice ao O.length co) O vb bk)) (HR : Hid (Rm s (18 + f1) (18 + f1 + c1) O bk)) (HL : Hid (Lk s (24 + 20 * (k : Int)))) (HQ : Hid (O.length ≤ k ∧ ∀ m, (bk m).length ≤ k + 1)) (HK : Hid (Keeps (fun _ => False) w wz)) (hbk : bk (zn + 1) = []) (hleft : (18 + f1 + c1) - nx s < ((zn + 1 : Nat) : Int))
    (Q : Exit → Act → World → Prop) (hN : ∀ T w', Fx f0 f1 c0 c1 gs off n c t ab (k : Int) T → St w t b g cg ab f1 c1 (k + 1) (k + 1) (20 + 20 * ((k : Int) + 1)) (T.getD 8 undef) w' → Q .normal ⟨T, []⟩ w') (hE : ∀ T w', Fx f0 f1 c0 c1 gs off n c t ab (k : Int) T → St w t b g cg ab f1 c1 (k + 1) (k + 1) (20 + 20 * ((k : Int) + 1)) (T.getD 8 undef) w' → Q (.exit 1) ⟨T, []⟩ w')
    (u6 u11 u12 u13 u14 u15 u16 u17 u18 u19 u20 u21 u37 u38 u39 u40 u41 u42 u43 u44 u45 u46 u47 u48 u49 u50 u51 u52 u53 u54 u55 u56 u57 u58 u59 u60 u61 u62 u63 u64 u65 u66 u67 u68 u69 u70 u71 u72 u73 u74 u75 u76 u77 u78 u79 u80 u81 u82 u83 u84 u85 u86 u87 u88 u89 u90 u91 u92 u93 u94 u95 u96 u97 u98 u99 u100 u101 u102 u103 u104 u105 u106 u107 u108 u109 u110 u111 u112 u113 u114 u115 u116 u117 u118 u119 u120 u121 u122 u123 u124 u125 u126 u127 u128 u129 u130 u131 u132 u133 u134 u135 u136 u137 u138 u139 u140 u141 u142 u143 u144 u145 u146 u147 u148 u149 u150 u151 u152 u153 u154 u155 u156 u157 u158 u159 u160 u161 u162 u163 u164 u165 u166 u167 u168 u169 u170 u171 u172 u173 u174 u175 u176 u177 u178 u179 u180 u181 u182 u183 u184 u185 u186 u187 u188 u189 u190 u191 u192 u193 u194 u195 u196 u197 u198 u199 u200 u201 u202 u203 u204 u205 u206 u207 u208 u209 u210 u211 u212 u213 u214 u215 u216 u217 u218 u219 u220 u221 u222 u223 u224 u225 u226 u227 : Value) : Code.wp Try.prog restC Q ⟨#[.int .u64 (18 + f1), .int .u64 c1, .slice (some ⟨gs, off, none⟩) n c, undef, undef, undef, u6, .pointer (some ⟨t, 0, none⟩), .slice ao O.length co, .pointer (some ⟨ab, 0, none⟩), .int .i64 k, u11, u12, u13, u14, u15, u16, u17, u18, u19, u20, u21, .int .u64 f0, .int .u64 f1, .int .u64 (18 + f1), .int .u64 c0, .int .u64 c1, .pointer (some ⟨t, 0, none⟩), .pointer (some ⟨t, 0, none⟩), .iface 24 (.pointer (some ⟨t, 0, none⟩)), .int .u64 (18 + f1), .int .u64 (18 + f1), .int .u64 c1, .int .u64 (18 + f1 + c1), .int .i64 0, .int .i64 0, .bool false, u37, u38, u39, u40, u41, u42, u43, u44, u45, u46, u47, u48, u49, u50, u51, u52, u53, u54, u55, u56, u57, u58, u59, u60, u61, u62, u63, u64, u65, u66, u67, u68, u69, u70, u71, u72, u73, u74, u75, u76, u77, u78, u79, u80, u81, u82, u83, u84, u85, u86, u87, u88, u89, u90, u91, u92, u93, u94, u95, u96, u97, u98, u99, u100, u101, u102, u103, u104, u105, u106, u107, u108, u109, u110, u111, u112, u113, u114, u115, u116, u117, u118, u119, u120, u121, u122, u123, u124, u125, u126, u127, u128, u129, u130, u131, u132, u133, u134, u135, u136, u137, u138, u139, u140, u141, u142, u143, u144, u145, u146, u147, u148, u149, u150, u151, u152, u153, u154, u155, u156, u157, u158, u159, u160, u161, u162, u163, u164, u165, u166, u167, u168, u169, u170, u171, u172, u173, u174, u175, u176, u177, u178, u179, u180, u181, u182, u183, u184, u185, u186, u187, u188, u189, u190, u191, u192, u193, u194, u195, u196, u197, u198, u199, u200, u201, u202, u203, u204, u205, u206, u207, u208, u209, u210, u211, u212, u213, u214, u215, u216, u217, u218, u219, u220, u221, u222, u223, u224, u225, u226, u227], []⟩ wz := by
  have hki : (k : Int) < (n : Int) := by omega
  have hb3 : 0 ≤ (zn : Int) ∧ (zn : Int) < 16 := by omega
  have HNE := hid hN
  have HEE := hid hE
  clear hN hE
  have hnx : nx s = nx s.dec.dec := rfl
  have HEl : Hid (s.lft 0 = (((18 + f1 + c1) - nx s, 0), s.dec.dec)) := HR.out.lft HL.out (by omega)
  have HR2 : Hid (Rm s.dec.dec (18 + f1) (18 + f1 + c1) O bk) := HR.out.dec.dec
  have HL2 : Hid (Lk s.dec.dec (24 + 20 * (k : Int) + 1 + 1)) := (HL.out.dec (by omega)).dec (by omega)
  obtain ⟨s2, hs2⟩ : ∃ x, s.dec.dec = x := ⟨_, rfl⟩
  rw [hs2] at HEl HR2 HL2 hnx
  clear hs2
  have hnb : 18 ≤ nx s ∧ nx s ≤ (18 + f1 + c1) := by
    have q1 := HR.out.nx0
    have q2 := HR.out.nx1
    unfold nx
    omega
  obtain ⟨s3, hs3⟩ : ∃ x, s2.dec.dec.dec = x := ⟨_, rfl⟩
  have HR3 : Hid (Rm s3 (18 + f1) (18 + f1 + c1) O bk) := by rw [← hs3]; exact HR2.out.dec.dec.dec
  have HL3 : Hid (Lk s3 (20 + 20 * ((k : Int) + 1))) := by rw [← hs3]; exact (((HL2.out.dec (by omega)).dec (by omega)).dec (by omega)).more (by omega) (by omega)
  have HET : Hid (s2.take 0 (1 + (zn : Int)) = ((0, 9), s3)) := by
    rw [show (1 + (zn : Int)) = ((zn + 1 : Nat) : Int) by omega, ← hs3]
    exact HR2.out.take_no HL2.out (by omega) (zn + 1) (by omega) (by omega) hbk (by rw [← hnx]; exact hleft)
  clear hs3
  conv => arg 2; whnf
  go_wp2_with fail
  have hh := HA.out.tw
  refine (left_r HEl (lit_isW 0 (by omega)) hh).mono ?_
  rintro e_ x2 ⟨rfl, h2, k2⟩
  replace HA := hid (HA.out.own h2 k2)
  replace HK : Hid (Keeps (fun _ => False) w x2) := HK.out.step k2 (fun q hq e => by have p := HP.out; rcases e with rfl | rfl <;> omega)
  clear hh h2 k2 HEl d0
  go_wp2_with fail
  have hh := HA.out.tw
  refine (take_r HET (lit_isW 0 (by omega)) hh).mono ?_
  rintro e_ x3 ⟨rfl, h3, k3⟩
  replace HA := hid (HA.out.own h3 k3)
  replace HK : Hid (Keeps (fun _ => False) w x3) := HK.out.step k3 (fun q hq e => by have p := HP.out; rcases e with rfl | rfl <;> omega)
  clear hh h3 k3 HET
  have e5 : x3.cell? ⟨ab, 1 + zn, none⟩ = some (vb (zn + 1)) := by rw [show 1 + zn = zn + 1 by omega]; exact HA.out.cell (by omega)
  have hto : (1 + (zn : Int)).toNat = 1 + zn := by omega
  obtain ⟨av, cv, hvb⟩ := (HA.out.rows (zn + 1) (by omega)).form
  rw [hvb, hbk] at e5
  simp only [List.length_nil] at e5
  clear hvb
  have hlf : 18 + f1 + c1 - nx s < 1 + (zn : Int) := by omega
  go_wp2_with (go_at_call 10; refine (num_any _ _).mono ?_; rintro e_ w_ ⟨rfl, hw_⟩; subst w_)
  exact HEE.out _ _ ⟨rfl, rfl, rfl, rfl, rfl, rfl, rfl, rfl, rfl, rfl, rfl, rfl, rfl, rfl, rfl, rfl, rfl, rfl, rfl, rfl, rfl, rfl, rfl, rfl, rfl⟩ ⟨s3, O, vb, bk, HA.out, HR3.out, HL3.out, Nat.le_succ_of_le HQ.out.1, HQ.out.2, HK.out⟩
end Go.Proofs.Ythelfalmjihkdaa
