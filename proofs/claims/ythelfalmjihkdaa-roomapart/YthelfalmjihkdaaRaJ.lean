
/- A round of RoomApart: its second part and its last, whatever the frame (layer 20). No statement of the seat is proved here. -/
import Derived.Test.YthelfalmjihkdaaRaI1
import Derived.Test.YthelfalmjihkdaaRaI2
import Derived.Test.YthelfalmjihkdaaRaI3
namespace Go.Proofs.Ythelfalmjihkdaa
open Go Go.RowKit

set_option maxRecDepth 1000000 in
set_option maxHeartbeats 16000000 in
theorem rest_any (f0 f1 c0 c1 : Int) (hb1 : 0 ≤ f1 ∧ f1 < 20) (hb2 : 0 ≤ c1 ∧ c1 < 200) (gs off n c t b g cg ab k : Nat) (hkn : k < n) (hn : n * 16 ≤ 140737488351232) (w wz : World) (HP : Hid (w.heap.size ≤ t ∧ w.heap.size ≤ b ∧ w.heap.size ≤ g)) (HAB : Hid (w.heap.size ≤ ab)) (ho : PsAt w (some ⟨gs, off, none⟩) n) (Q : Exit → Act → World → Prop) (hN : ∀ T w', Fx f0 f1 c0 c1 gs off n c t ab (k : Int) T → St w t b g cg ab f1 c1 (k + 1) (k + 1) (20 + 20 * ((k : Int) + 1)) (T.getD 8 undef) w' → Q .normal ⟨T, []⟩ w') (hE : ∀ T w', Fx f0 f1 c0 c1 gs off n c t ab (k : Int) T → St w t b g cg ab f1 c1 (k + 1) (k + 1) (20 + 20 * ((k : Int) + 1)) (T.getD 8 undef) w' → Q (.exit 1) ⟨T, []⟩ w')
    (T : Array Value) (hF : Fx f0 f1 c0 c1 gs off n c t ab (k : Int) T) (hS : St w t b g cg ab f1 c1 k (k + 1) (24 + 20 * (k : Int)) (T.getD 8 undef) wz) : Code.wp Try.prog restC Q ⟨T, []⟩ wz := by
  refine frame_all (G := fun T => Fx f0 f1 c0 c1 gs off n c t ab (k : Int) T → St w t b g cg ab f1 c1 k (k + 1) (24 + 20 * (k : Int)) (T.getD 8 undef) wz → Code.wp Try.prog restC Q ⟨T, []⟩ wz) ?_ T hF.1 hF hS
  clear hF hS T
  intro u0 u1 u2 u3 u4 u5 u6 u7 u8 u9 u10 u11 u12 u13 u14 u15 u16 u17 u18 u19 u20 u21 u22 u23 u24 u25 u26 u27 u28 u29 u30 u31 u32 u33 u34 u35 u36 u37 u38 u39 u40 u41 u42 u43 u44 u45 u46 u47 u48 u49 u50 u51 u52 u53 u54 u55 u56 u57 u58 u59 u60 u61 u62 u63 u64 u65 u66 u67 u68 u69 u70 u71 u72 u73 u74 u75 u76 u77 u78 u79 u80 u81 u82 u83 u84 u85 u86 u87 u88 u89 u90 u91 u92 u93 u94 u95 u96 u97 u98 u99 u100 u101 u102 u103 u104 u105 u106 u107 u108 u109 u110 u111 u112 u113 u114 u115 u116 u117 u118 u119 u120 u121 u122 u123 u124 u125 u126 u127 u128 u129 u130 u131 u132 u133 u134 u135 u136 u137 u138 u139 u140 u141 u142 u143 u144 u145 u146 u147 u148 u149 u150 u151 u152 u153 u154 u155 u156 u157 u158 u159 u160 u161 u162 u163 u164 u165 u166 u167 u168 u169 u170 u171 u172 u173 u174 u175 u176 u177 u178 u179 u180 u181 u182 u183 u184 u185 u186 u187 u188 u189 u190 u191 u192 u193 u194 u195 u196 u197 u198 u199 u200 u201 u202 u203 u204 u205 u206 u207 u208 u209 u210 u211 u212 u213 u214 u215 u216 u217 u218 u219 u220 u221 u222 u223 u224 u225 u226 u227 hF hS
  obtain ⟨_, g0, g1, g2, g3, g4, g5, g7, g9, g10, g22, g23, g24, g25, g26, g27, g28, g29, g30, g31, g32, g33, g34, g35, g36⟩ := hF
  replace g0 : u0 = .int .u64 (18 + f1) := g0
  replace g1 : u1 = .int .u64 c1 := g1
  replace g2 : u2 = .slice (some ⟨gs, off, none⟩) n c := g2
  replace g3 : u3 = undef := g3
  replace g4 : u4 = undef := g4
  replace g5 : u5 = undef := g5
  replace g7 : u7 = .pointer (some ⟨t, 0, none⟩) := g7
  replace g9 : u9 = .pointer (some ⟨ab, 0, none⟩) := g9
  replace g10 : u10 = .int .i64 k := g10
  replace g22 : u22 = .int .u64 f0 := g22
  replace g23 : u23 = .int .u64 f1 := g23
  replace g24 : u24 = .int .u64 (18 + f1) := g24
  replace g25 : u25 = .int .u64 c0 := g25
  replace g26 : u26 = .int .u64 c1 := g26
  replace g27 : u27 = .pointer (some ⟨t, 0, none⟩) := g27
  replace g28 : u28 = .pointer (some ⟨t, 0, none⟩) := g28
  replace g29 : u29 = .iface 24 (.pointer (some ⟨t, 0, none⟩)) := g29
  replace g30 : u30 = .int .u64 (18 + f1) := g30
  replace g31 : u31 = .int .u64 (18 + f1) := g31
  replace g32 : u32 = .int .u64 c1 := g32
  replace g33 : u33 = .int .u64 (18 + f1 + c1) := g33
  replace g34 : u34 = .int .i64 0 := g34
  replace g35 : u35 = .int .i64 0 := g35
  replace g36 : u36 = .bool false := g36
  replace hS : St w t b g cg ab f1 c1 k (k + 1) (24 + 20 * (k : Int)) u8 wz := hS
  subst g0 g1 g2 g3 g4 g5 g7 g9 g10 g22 g23 g24 g25 g26 g27 g28 g29 g30 g31 g32 g33 g34 g35 g36
  obtain ⟨s, O, vb, bk, hA, hR, hL, hOl, hbl, hK⟩ := hS
  obtain ⟨ao, co, hu8⟩ := hA.out.form
  subst hu8
  obtain ⟨_, _, hgs, sz, bb, hsz, d0, _⟩ := (ho.keeps hK) k hkn
  cases hgs
  have hb3 := tmod_bound sz hsz 16 (by omega)
  obtain ⟨zn, hzn⟩ : ∃ zn : Nat, sz.tmod 16 = (zn : Int) := ⟨(sz.tmod 16).toNat, by omega⟩
  have hzl : zn < 16 := by omega
  rcases List.eq_nil_or_concat (bk (zn + 1)) with hbk | ⟨r, al, hbk⟩
  · by_cases hleft : 18 + f1 + c1 - nx s < ((zn + 1 : Nat) : Int)
    · exact rest_no f0 f1 c0 c1 hb1 hb2 gs off n c t b g cg ab k hkn hn w wz HP HAB sz d0 zn hzn hzl s O ao co vb bk (hid hA) (hid hR) (hid hL) (hid ⟨hOl, hbl⟩) (hid hK) hbk hleft Q hN hE u6 u11 u12 u13 u14 u15 u16 u17 u18 u19 u20 u21 u37 u38 u39 u40 u41 u42 u43 u44 u45 u46 u47 u48 u49 u50 u51 u52 u53 u54 u55 u56 u57 u58 u59 u60 u61 u62 u63 u64 u65 u66 u67 u68 u69 u70 u71 u72 u73 u74 u75 u76 u77 u78 u79 u80 u81 u82 u83 u84 u85 u86 u87 u88 u89 u90 u91 u92 u93 u94 u95 u96 u97 u98 u99 u100 u101 u102 u103 u104 u105 u106 u107 u108 u109 u110 u111 u112 u113 u114 u115 u116 u117 u118 u119 u120 u121 u122 u123 u124 u125 u126 u127 u128 u129 u130 u131 u132 u133 u134 u135 u136 u137 u138 u139 u140 u141 u142 u143 u144 u145 u146 u147 u148 u149 u150 u151 u152 u153 u154 u155 u156 u157 u158 u159 u160 u161 u162 u163 u164 u165 u166 u167 u168 u169 u170 u171 u172 u173 u174 u175 u176 u177 u178 u179 u180 u181 u182 u183 u184 u185 u186 u187 u188 u189 u190 u191 u192 u193 u194 u195 u196 u197 u198 u199 u200 u201 u202 u203 u204 u205 u206 u207 u208 u209 u210 u211 u212 u213 u214 u215 u216 u217 u218 u219 u220 u221 u222 u223 u224 u225 u226 u227
    · exact rest_new f0 f1 c0 c1 hb1 hb2 gs off n c t b g cg ab k hkn hn w wz HP HAB sz d0 zn hzn hzl s O ao co vb bk (hid hA) (hid hR) (hid hL) (hid ⟨hOl, hbl⟩) (hid hK) hbk (by omega) Q hN hE u6 u11 u12 u13 u14 u15 u16 u17 u18 u19 u20 u21 u37 u38 u39 u40 u41 u42 u43 u44 u45 u46 u47 u48 u49 u50 u51 u52 u53 u54 u55 u56 u57 u58 u59 u60 u61 u62 u63 u64 u65 u66 u67 u68 u69 u70 u71 u72 u73 u74 u75 u76 u77 u78 u79 u80 u81 u82 u83 u84 u85 u86 u87 u88 u89 u90 u91 u92 u93 u94 u95 u96 u97 u98 u99 u100 u101 u102 u103 u104 u105 u106 u107 u108 u109 u110 u111 u112 u113 u114 u115 u116 u117 u118 u119 u120 u121 u122 u123 u124 u125 u126 u127 u128 u129 u130 u131 u132 u133 u134 u135 u136 u137 u138 u139 u140 u141 u142 u143 u144 u145 u146 u147 u148 u149 u150 u151 u152 u153 u154 u155 u156 u157 u158 u159 u160 u161 u162 u163 u164 u165 u166 u167 u168 u169 u170 u171 u172 u173 u174 u175 u176 u177 u178 u179 u180 u181 u182 u183 u184 u185 u186 u187 u188 u189 u190 u191 u192 u193 u194 u195 u196 u197 u198 u199 u200 u201 u202 u203 u204 u205 u206 u207 u208 u209 u210 u211 u212 u213 u214 u215 u216 u217 u218 u219 u220 u221 u222 u223 u224 u225 u226 u227
  · exact rest_old f0 f1 c0 c1 hb1 hb2 gs off n c t b g cg ab k hkn hn w wz HP HAB sz d0 zn hzn hzl s O ao co vb bk (hid hA) (hid hR) (hid hL) (hid ⟨hOl, hbl⟩) (hid hK) r al (by rw [hbk, List.concat_eq_append]) Q hN hE u6 u11 u12 u13 u14 u15 u16 u17 u18 u19 u20 u21 u37 u38 u39 u40 u41 u42 u43 u44 u45 u46 u47 u48 u49 u50 u51 u52 u53 u54 u55 u56 u57 u58 u59 u60 u61 u62 u63 u64 u65 u66 u67 u68 u69 u70 u71 u72 u73 u74 u75 u76 u77 u78 u79 u80 u81 u82 u83 u84 u85 u86 u87 u88 u89 u90 u91 u92 u93 u94 u95 u96 u97 u98 u99 u100 u101 u102 u103 u104 u105 u106 u107 u108 u109 u110 u111 u112 u113 u114 u115 u116 u117 u118 u119 u120 u121 u122 u123 u124 u125 u126 u127 u128 u129 u130 u131 u132 u133 u134 u135 u136 u137 u138 u139 u140 u141 u142 u143 u144 u145 u146 u147 u148 u149 u150 u151 u152 u153 u154 u155 u156 u157 u158 u159 u160 u161 u162 u163 u164 u165 u166 u167 u168 u169 u170 u171 u172 u173 u174 u175 u176 u177 u178 u179 u180 u181 u182 u183 u184 u185 u186 u187 u188 u189 u190 u191 u192 u193 u194 u195 u196 u197 u198 u199 u200 u201 u202 u203 u204 u205 u206 u207 u208 u209 u210 u211 u212 u213 u214 u215 u216 u217 u218 u219 u220 u221 u222 u223 u224 u225 u226 u227
set_option maxRecDepth 1000000 in
set_option maxHeartbeats 16000000 in
theorem last_any (f0 f1 c0 c1 : Int) (gs off n c t ab k : Nat) (hkn : k < n) (hn : n * 16 ≤ 140737488351232) (wz : World) (Q : Exit → Act → World → Prop) (T : Array Value) (hF : Fx f0 f1 c0 c1 gs off n c t ab (k : Int) T) (h : ∀ T', Fx f0 f1 c0 c1 gs off n c t ab ((k + 1 : Nat) : Int) T' → T'.getD 8 undef = T.getD 8 undef → Q .normal ⟨T', []⟩ wz) : Code.wp Try.prog lastC Q ⟨T, []⟩ wz := by
  refine frame_all (G := fun T => Fx f0 f1 c0 c1 gs off n c t ab (k : Int) T → (∀ T', Fx f0 f1 c0 c1 gs off n c t ab ((k + 1 : Nat) : Int) T' → T'.getD 8 undef = T.getD 8 undef → Q .normal ⟨T', []⟩ wz) → Code.wp Try.prog lastC Q ⟨T, []⟩ wz) ?_ T hF.1 hF h
  clear hF h T
  intro u0 u1 u2 u3 u4 u5 u6 u7 u8 u9 u10 u11 u12 u13 u14 u15 u16 u17 u18 u19 u20 u21 u22 u23 u24 u25 u26 u27 u28 u29 u30 u31 u32 u33 u34 u35 u36 u37 u38 u39 u40 u41 u42 u43 u44 u45 u46 u47 u48 u49 u50 u51 u52 u53 u54 u55 u56 u57 u58 u59 u60 u61 u62 u63 u64 u65 u66 u67 u68 u69 u70 u71 u72 u73 u74 u75 u76 u77 u78 u79 u80 u81 u82 u83 u84 u85 u86 u87 u88 u89 u90 u91 u92 u93 u94 u95 u96 u97 u98 u99 u100 u101 u102 u103 u104 u105 u106 u107 u108 u109 u110 u111 u112 u113 u114 u115 u116 u117 u118 u119 u120 u121 u122 u123 u124 u125 u126 u127 u128 u129 u130 u131 u132 u133 u134 u135 u136 u137 u138 u139 u140 u141 u142 u143 u144 u145 u146 u147 u148 u149 u150 u151 u152 u153 u154 u155 u156 u157 u158 u159 u160 u161 u162 u163 u164 u165 u166 u167 u168 u169 u170 u171 u172 u173 u174 u175 u176 u177 u178 u179 u180 u181 u182 u183 u184 u185 u186 u187 u188 u189 u190 u191 u192 u193 u194 u195 u196 u197 u198 u199 u200 u201 u202 u203 u204 u205 u206 u207 u208 u209 u210 u211 u212 u213 u214 u215 u216 u217 u218 u219 u220 u221 u222 u223 u224 u225 u226 u227 hF h
  obtain ⟨_, g0, g1, g2, g3, g4, g5, g7, g9, g10, g22, g23, g24, g25, g26, g27, g28, g29, g30, g31, g32, g33, g34, g35, g36⟩ := hF
  replace g0 : u0 = .int .u64 (18 + f1) := g0
  replace g1 : u1 = .int .u64 c1 := g1
  replace g2 : u2 = .slice (some ⟨gs, off, none⟩) n c := g2
  replace g3 : u3 = undef := g3
  replace g4 : u4 = undef := g4
  replace g5 : u5 = undef := g5
  replace g7 : u7 = .pointer (some ⟨t, 0, none⟩) := g7
  replace g9 : u9 = .pointer (some ⟨ab, 0, none⟩) := g9
  replace g10 : u10 = .int .i64 k := g10
  replace g22 : u22 = .int .u64 f0 := g22
  replace g23 : u23 = .int .u64 f1 := g23
  replace g24 : u24 = .int .u64 (18 + f1) := g24
  replace g25 : u25 = .int .u64 c0 := g25
  replace g26 : u26 = .int .u64 c1 := g26
  replace g27 : u27 = .pointer (some ⟨t, 0, none⟩) := g27
  replace g28 : u28 = .pointer (some ⟨t, 0, none⟩) := g28
  replace g29 : u29 = .iface 24 (.pointer (some ⟨t, 0, none⟩)) := g29
  replace g30 : u30 = .int .u64 (18 + f1) := g30
  replace g31 : u31 = .int .u64 (18 + f1) := g31
  replace g32 : u32 = .int .u64 c1 := g32
  replace g33 : u33 = .int .u64 (18 + f1 + c1) := g33
  replace g34 : u34 = .int .i64 0 := g34
  replace g35 : u35 = .int .i64 0 := g35
  replace g36 : u36 = .bool false := g36
  subst g0 g1 g2 g3 g4 g5 g7 g9 g10 g22 g23 g24 g25 g26 g27 g28 g29 g30 g31 g32 g33 g34 g35 g36
  have HH := hid h
  clear h
  have hki : (k : Int) < 8796093022208 := by omega
  conv => arg 2; whnf
  go_wp2_with fail
  exact HH.out _ ⟨rfl, rfl, rfl, rfl, rfl, rfl, rfl, rfl, rfl, by show Value.int .i64 ((k : Int) + 1) = _; rw [show ((k + 1 : Nat) : Int) = (k : Int) + 1 by omega], rfl, rfl, rfl, rfl, rfl, rfl, rfl, rfl, rfl, rfl, rfl, rfl, rfl, rfl, rfl⟩ rfl
end Go.Proofs.Ythelfalmjihkdaa
