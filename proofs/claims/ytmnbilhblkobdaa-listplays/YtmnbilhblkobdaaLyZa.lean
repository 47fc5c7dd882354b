
/- The frame of ListPlays taken apart, and a round cut in parts (layer 21). No statement of the seat is proved here. -/
import Derived.Test.YtmnbilhblkobdaaLyYM
namespace Go.Proofs.Ytmnbilhblkobdaa
open Go Go.RowKit

theorem open1 (n : Nat) (l : List Value) (h : l.length = n + 1) : ∃ u l', l = u :: l' ∧ l'.length = n := by
  cases l with
  | nil => simp at h
  | cons u l' => exact ⟨u, l', rfl, by simpa using h⟩
set_option maxRecDepth 100000 in
set_option maxHeartbeats 4000000 in
theorem frame_cps {G : Array Value → Prop} (T : Array Value) (h : T.size = 195) (H : ∀ u0 u1 u2 u3 u4 u5 u6 u7 u8 u9 u10 u11 u12 u13 u14 u15 u16 u17 u18 u19 u20 u21 u22 u23 u24 u25 u26 u27 u28 u29 u30 u31 u32 u33 u34 u35 u36 u37 u38 u39 u40 u41 u42 u43 u44 u45 u46 u47 u48 u49 u50 u51 u52 u53 u54 u55 u56 u57 u58 u59 u60 u61 u62 u63 u64 u65 u66 u67 u68 u69 u70 u71 u72 u73 u74 u75 u76 u77 u78 u79 u80 u81 u82 u83 u84 u85 u86 u87 u88 u89 u90 u91 u92 u93 u94 u95 u96 u97 u98 u99 u100 u101 u102 u103 u104 u105 u106 u107 u108 u109 u110 u111 u112 u113 u114 u115 u116 u117 u118 u119 u120 u121 u122 u123 u124 u125 u126 u127 u128 u129 u130 u131 u132 u133 u134 u135 u136 u137 u138 u139 u140 u141 u142 u143 u144 u145 u146 u147 u148 u149 u150 u151 u152 u153 u154 u155 u156 u157 u158 u159 u160 u161 u162 u163 u164 u165 u166 u167 u168 u169 u170 u171 u172 u173 u174 u175 u176 u177 u178 u179 u180 u181 u182 u183 u184 u185 u186 u187 u188 u189 u190 u191 u192 u193 u194 : Value, G #[u0, u1, u2, u3, u4, u5, u6, u7, u8, u9, u10, u11, u12, u13, u14, u15, u16, u17, u18, u19, u20, u21, u22, u23, u24, u25, u26, u27, u28, u29, u30, u31, u32, u33, u34, u35, u36, u37, u38, u39, u40, u41, u42, u43, u44, u45, u46, u47, u48, u49, u50, u51, u52, u53, u54, u55, u56, u57, u58, u59, u60, u61, u62, u63, u64, u65, u66, u67, u68, u69, u70, u71, u72, u73, u74, u75, u76, u77, u78, u79, u80, u81, u82, u83, u84, u85, u86, u87, u88, u89, u90, u91, u92, u93, u94, u95, u96, u97, u98, u99, u100, u101, u102, u103, u104, u105, u106, u107, u108, u109, u110, u111, u112, u113, u114, u115, u116, u117, u118, u119, u120, u121, u122, u123, u124, u125, u126, u127, u128, u129, u130, u131, u132, u133, u134, u135, u136, u137, u138, u139, u140, u141, u142, u143, u144, u145, u146, u147, u148, u149, u150, u151, u152, u153, u154, u155, u156, u157, u158, u159, u160, u161, u162, u163, u164, u165, u166, u167, u168, u169, u170, u171, u172, u173, u174, u175, u176, u177, u178, u179, u180, u181, u182, u183, u184, u185, u186, u187, u188, u189, u190, u191, u192, u193, u194]) : G T := by
  obtain ⟨l0⟩ := T
  have h0 : l0.length = 195 := by simpa using h
  obtain ⟨u0, l1, e0, h1⟩ := open1 194 l0 h0
  obtain ⟨u1, l2, e1, h2⟩ := open1 193 l1 h1
  obtain ⟨u2, l3, e2, h3⟩ := open1 192 l2 h2
  obtain ⟨u3, l4, e3, h4⟩ := open1 191 l3 h3
  obtain ⟨u4, l5, e4, h5⟩ := open1 190 l4 h4
  obtain ⟨u5, l6, e5, h6⟩ := open1 189 l5 h5
  obtain ⟨u6, l7, e6, h7⟩ := open1 188 l6 h6
  obtain ⟨u7, l8, e7, h8⟩ := open1 187 l7 h7
  obtain ⟨u8, l9, e8, h9⟩ := open1 186 l8 h8
  obtain ⟨u9, l10, e9, h10⟩ := open1 185 l9 h9
  obtain ⟨u10, l11, e10, h11⟩ := open1 184 l10 h10
  obtain ⟨u11, l12, e11, h12⟩ := open1 183 l11 h11
  obtain ⟨u12, l13, e12, h13⟩ := open1 182 l12 h12
  obtain ⟨u13, l14, e13, h14⟩ := open1 181 l13 h13
  obtain ⟨u14, l15, e14, h15⟩ := open1 180 l14 h14
  obtain ⟨u15, l16, e15, h16⟩ := open1 179 l15 h15
  obtain ⟨u16, l17, e16, h17⟩ := open1 178 l16 h16
  obtain ⟨u17, l18, e17, h18⟩ := open1 177 l17 h17
  obtain ⟨u18, l19, e18, h19⟩ := open1 176 l18 h18
  obtain ⟨u19, l20, e19, h20⟩ := open1 175 l19 h19
  obtain ⟨u20, l21, e20, h21⟩ := open1 174 l20 h20
  obtain ⟨u21, l22, e21, h22⟩ := open1 173 l21 h21
  obtain ⟨u22, l23, e22, h23⟩ := open1 172 l22 h22
  obtain ⟨u23, l24, e23, h24⟩ := open1 171 l23 h23
  obtain ⟨u24, l25, e24, h25⟩ := open1 170 l24 h24
  obtain ⟨u25, l26, e25, h26⟩ := open1 169 l25 h25
  obtain ⟨u26, l27, e26, h27⟩ := open1 168 l26 h26
  obtain ⟨u27, l28, e27, h28⟩ := open1 167 l27 h27
  obtain ⟨u28, l29, e28, h29⟩ := open1 166 l28 h28
  obtain ⟨u29, l30, e29, h30⟩ := open1 165 l29 h29
  obtain ⟨u30, l31, e30, h31⟩ := open1 164 l30 h30
  obtain ⟨u31, l32, e31, h32⟩ := open1 163 l31 h31
  obtain ⟨u32, l33, e32, h33⟩ := open1 162 l32 h32
  obtain ⟨u33, l34, e33, h34⟩ := open1 161 l33 h33
  obtain ⟨u34, l35, e34, h35⟩ := open1 160 l34 h34
  obtain ⟨u35, l36, e35, h36⟩ := open1 159 l35 h35
  obtain ⟨u36, l37, e36, h37⟩ := open1 158 l36 h36
  obtain ⟨u37, l38, e37, h38⟩ := open1 157 l37 h37
  obtain ⟨u38, l39, e38, h39⟩ := open1 156 l38 h38
  obtain ⟨u39, l40, e39, h40⟩ := open1 155 l39 h39
  obtain ⟨u40, l41, e40, h41⟩ := open1 154 l40 h40
  obtain ⟨u41, l42, e41, h42⟩ := open1 153 l41 h41
  obtain ⟨u42, l43, e42, h43⟩ := open1 152 l42 h42
  obtain ⟨u43, l44, e43, h44⟩ := open1 151 l43 h43
  obtain ⟨u44, l45, e44, h45⟩ := open1 150 l44 h44
  obtain ⟨u45, l46, e45, h46⟩ := open1 149 l45 h45
  obtain ⟨u46, l47, e46, h47⟩ := open1 148 l46 h46
  obtain ⟨u47, l48, e47, h48⟩ := open1 147 l47 h47
  obtain ⟨u48, l49, e48, h49⟩ := open1 146 l48 h48
  obtain ⟨u49, l50, e49, h50⟩ := open1 145 l49 h49
  obtain ⟨u50, l51, e50, h51⟩ := open1 144 l50 h50
  obtain ⟨u51, l52, e51, h52⟩ := open1 143 l51 h51
  obtain ⟨u52, l53, e52, h53⟩ := open1 142 l52 h52
  obtain ⟨u53, l54, e53, h54⟩ := open1 141 l53 h53
  obtain ⟨u54, l55, e54, h55⟩ := open1 140 l54 h54
  obtain ⟨u55, l56, e55, h56⟩ := open1 139 l55 h55
  obtain ⟨u56, l57, e56, h57⟩ := open1 138 l56 h56
  obtain ⟨u57, l58, e57, h58⟩ := open1 137 l57 h57
  obtain ⟨u58, l59, e58, h59⟩ := open1 136 l58 h58
  obtain ⟨u59, l60, e59, h60⟩ := open1 135 l59 h59
  obtain ⟨u60, l61, e60, h61⟩ := open1 134 l60 h60
  obtain ⟨u61, l62, e61, h62⟩ := open1 133 l61 h61
  obtain ⟨u62, l63, e62, h63⟩ := open1 132 l62 h62
  obtain ⟨u63, l64, e63, h64⟩ := open1 131 l63 h63
  obtain ⟨u64, l65, e64, h65⟩ := open1 130 l64 h64
  obtain ⟨u65, l66, e65, h66⟩ := open1 129 l65 h65
  obtain ⟨u66, l67, e66, h67⟩ := open1 128 l66 h66
  obtain ⟨u67, l68, e67, h68⟩ := open1 127 l67 h67
  obtain ⟨u68, l69, e68, h69⟩ := open1 126 l68 h68
  obtain ⟨u69, l70, e69, h70⟩ := open1 125 l69 h69
  obtain ⟨u70, l71, e70, h71⟩ := open1 124 l70 h70
  obtain ⟨u71, l72, e71, h72⟩ := open1 123 l71 h71
  obtain ⟨u72, l73, e72, h73⟩ := open1 122 l72 h72
  obtain ⟨u73, l74, e73, h74⟩ := open1 121 l73 h73
  obtain ⟨u74, l75, e74, h75⟩ := open1 120 l74 h74
  obtain ⟨u75, l76, e75, h76⟩ := open1 119 l75 h75
  obtain ⟨u76, l77, e76, h77⟩ := open1 118 l76 h76
  obtain ⟨u77, l78, e77, h78⟩ := open1 117 l77 h77
  obtain ⟨u78, l79, e78, h79⟩ := open1 116 l78 h78
  obtain ⟨u79, l80, e79, h80⟩ := open1 115 l79 h79
  obtain ⟨u80, l81, e80, h81⟩ := open1 114 l80 h80
  obtain ⟨u81, l82, e81, h82⟩ := open1 113 l81 h81
  obtain ⟨u82, l83, e82, h83⟩ := open1 112 l82 h82
  obtain ⟨u83, l84, e83, h84⟩ := open1 111 l83 h83
  obtain ⟨u84, l85, e84, h85⟩ := open1 110 l84 h84
  obtain ⟨u85, l86, e85, h86⟩ := open1 109 l85 h85
  obtain ⟨u86, l87, e86, h87⟩ := open1 108 l86 h86
  obtain ⟨u87, l88, e87, h88⟩ := open1 107 l87 h87
  obtain ⟨u88, l89, e88, h89⟩ := open1 106 l88 h88
  obtain ⟨u89, l90, e89, h90⟩ := open1 105 l89 h89
  obtain ⟨u90, l91, e90, h91⟩ := open1 104 l90 h90
  obtain ⟨u91, l92, e91, h92⟩ := open1 103 l91 h91
  obtain ⟨u92, l93, e92, h93⟩ := open1 102 l92 h92
  obtain ⟨u93, l94, e93, h94⟩ := open1 101 l93 h93
  obtain ⟨u94, l95, e94, h95⟩ := open1 100 l94 h94
  obtain ⟨u95, l96, e95, h96⟩ := open1 99 l95 h95
  obtain ⟨u96, l97, e96, h97⟩ := open1 98 l96 h96
  obtain ⟨u97, l98, e97, h98⟩ := open1 97 l97 h97
  obtain ⟨u98, l99, e98, h99⟩ := open1 96 l98 h98
  obtain ⟨u99, l100, e99, h100⟩ := open1 95 l99 h99
  obtain ⟨u100, l101, e100, h101⟩ := open1 94 l100 h100
  obtain ⟨u101, l102, e101, h102⟩ := open1 93 l101 h101
  obtain ⟨u102, l103, e102, h103⟩ := open1 92 l102 h102
  obtain ⟨u103, l104, e103, h104⟩ := open1 91 l103 h103
  obtain ⟨u104, l105, e104, h105⟩ := open1 90 l104 h104
  obtain ⟨u105, l106, e105, h106⟩ := open1 89 l105 h105
  obtain ⟨u106, l107, e106, h107⟩ := open1 88 l106 h106
  obtain ⟨u107, l108, e107, h108⟩ := open1 87 l107 h107
  obtain ⟨u108, l109, e108, h109⟩ := open1 86 l108 h108
  obtain ⟨u109, l110, e109, h110⟩ := open1 85 l109 h109
  obtain ⟨u110, l111, e110, h111⟩ := open1 84 l110 h110
  obtain ⟨u111, l112, e111, h112⟩ := open1 83 l111 h111
  obtain ⟨u112, l113, e112, h113⟩ := open1 82 l112 h112
  obtain ⟨u113, l114, e113, h114⟩ := open1 81 l113 h113
  obtain ⟨u114, l115, e114, h115⟩ := open1 80 l114 h114
  obtain ⟨u115, l116, e115, h116⟩ := open1 79 l115 h115
  obtain ⟨u116, l117, e116, h117⟩ := open1 78 l116 h116
  obtain ⟨u117, l118, e117, h118⟩ := open1 77 l117 h117
  obtain ⟨u118, l119, e118, h119⟩ := open1 76 l118 h118
  obtain ⟨u119, l120, e119, h120⟩ := open1 75 l119 h119
  obtain ⟨u120, l121, e120, h121⟩ := open1 74 l120 h120
  obtain ⟨u121, l122, e121, h122⟩ := open1 73 l121 h121
  obtain ⟨u122, l123, e122, h123⟩ := open1 72 l122 h122
  obtain ⟨u123, l124, e123, h124⟩ := open1 71 l123 h123
  obtain ⟨u124, l125, e124, h125⟩ := open1 70 l124 h124
  obtain ⟨u125, l126, e125, h126⟩ := open1 69 l125 h125
  obtain ⟨u126, l127, e126, h127⟩ := open1 68 l126 h126
  obtain ⟨u127, l128, e127, h128⟩ := open1 67 l127 h127
  obtain ⟨u128, l129, e128, h129⟩ := open1 66 l128 h128
  obtain ⟨u129, l130, e129, h130⟩ := open1 65 l129 h129
  obtain ⟨u130, l131, e130, h131⟩ := open1 64 l130 h130
  obtain ⟨u131, l132, e131, h132⟩ := open1 63 l131 h131
  obtain ⟨u132, l133, e132, h133⟩ := open1 62 l132 h132
  obtain ⟨u133, l134, e133, h134⟩ := open1 61 l133 h133
  obtain ⟨u134, l135, e134, h135⟩ := open1 60 l134 h134
  obtain ⟨u135, l136, e135, h136⟩ := open1 59 l135 h135
  obtain ⟨u136, l137, e136, h137⟩ := open1 58 l136 h136
  obtain ⟨u137, l138, e137, h138⟩ := open1 57 l137 h137
  obtain ⟨u138, l139, e138, h139⟩ := open1 56 l138 h138
  obtain ⟨u139, l140, e139, h140⟩ := open1 55 l139 h139
  obtain ⟨u140, l141, e140, h141⟩ := open1 54 l140 h140
  obtain ⟨u141, l142, e141, h142⟩ := open1 53 l141 h141
  obtain ⟨u142, l143, e142, h143⟩ := open1 52 l142 h142
  obtain ⟨u143, l144, e143, h144⟩ := open1 51 l143 h143
  obtain ⟨u144, l145, e144, h145⟩ := open1 50 l144 h144
  obtain ⟨u145, l146, e145, h146⟩ := open1 49 l145 h145
  obtain ⟨u146, l147, e146, h147⟩ := open1 48 l146 h146
  obtain ⟨u147, l148, e147, h148⟩ := open1 47 l147 h147
  obtain ⟨u148, l149, e148, h149⟩ := open1 46 l148 h148
  obtain ⟨u149, l150, e149, h150⟩ := open1 45 l149 h149
  obtain ⟨u150, l151, e150, h151⟩ := open1 44 l150 h150
  obtain ⟨u151, l152, e151, h152⟩ := open1 43 l151 h151
  obtain ⟨u152, l153, e152, h153⟩ := open1 42 l152 h152
  obtain ⟨u153, l154, e153, h154⟩ := open1 41 l153 h153
  obtain ⟨u154, l155, e154, h155⟩ := open1 40 l154 h154
  obtain ⟨u155, l156, e155, h156⟩ := open1 39 l155 h155
  obtain ⟨u156, l157, e156, h157⟩ := open1 38 l156 h156
  obtain ⟨u157, l158, e157, h158⟩ := open1 37 l157 h157
  obtain ⟨u158, l159, e158, h159⟩ := open1 36 l158 h158
  obtain ⟨u159, l160, e159, h160⟩ := open1 35 l159 h159
  obtain ⟨u160, l161, e160, h161⟩ := open1 34 l160 h160
  obtain ⟨u161, l162, e161, h162⟩ := open1 33 l161 h161
  obtain ⟨u162, l163, e162, h163⟩ := open1 32 l162 h162
  obtain ⟨u163, l164, e163, h164⟩ := open1 31 l163 h163
  obtain ⟨u164, l165, e164, h165⟩ := open1 30 l164 h164
  obtain ⟨u165, l166, e165, h166⟩ := open1 29 l165 h165
  obtain ⟨u166, l167, e166, h167⟩ := open1 28 l166 h166
  obtain ⟨u167, l168, e167, h168⟩ := open1 27 l167 h167
  obtain ⟨u168, l169, e168, h169⟩ := open1 26 l168 h168
  obtain ⟨u169, l170, e169, h170⟩ := open1 25 l169 h169
  obtain ⟨u170, l171, e170, h171⟩ := open1 24 l170 h170
  obtain ⟨u171, l172, e171, h172⟩ := open1 23 l171 h171
  obtain ⟨u172, l173, e172, h173⟩ := open1 22 l172 h172
  obtain ⟨u173, l174, e173, h174⟩ := open1 21 l173 h173
  obtain ⟨u174, l175, e174, h175⟩ := open1 20 l174 h174
  obtain ⟨u175, l176, e175, h176⟩ := open1 19 l175 h175
  obtain ⟨u176, l177, e176, h177⟩ := open1 18 l176 h176
  obtain ⟨u177, l178, e177, h178⟩ := open1 17 l177 h177
  obtain ⟨u178, l179, e178, h179⟩ := open1 16 l178 h178
  obtain ⟨u179, l180, e179, h180⟩ := open1 15 l179 h179
  obtain ⟨u180, l181, e180, h181⟩ := open1 14 l180 h180
  obtain ⟨u181, l182, e181, h182⟩ := open1 13 l181 h181
  obtain ⟨u182, l183, e182, h183⟩ := open1 12 l182 h182
  obtain ⟨u183, l184, e183, h184⟩ := open1 11 l183 h183
  obtain ⟨u184, l185, e184, h185⟩ := open1 10 l184 h184
  obtain ⟨u185, l186, e185, h186⟩ := open1 9 l185 h185
  obtain ⟨u186, l187, e186, h187⟩ := open1 8 l186 h186
  obtain ⟨u187, l188, e187, h188⟩ := open1 7 l187 h187
  obtain ⟨u188, l189, e188, h189⟩ := open1 6 l188 h188
  obtain ⟨u189, l190, e189, h190⟩ := open1 5 l189 h189
  obtain ⟨u190, l191, e190, h191⟩ := open1 4 l190 h190
  obtain ⟨u191, l192, e191, h192⟩ := open1 3 l191 h191
  obtain ⟨u192, l193, e192, h193⟩ := open1 2 l192 h192
  obtain ⟨u193, l194, e193, h194⟩ := open1 1 l193 h193
  obtain ⟨u194, l195, e194, h195⟩ := open1 0 l194 h194
  have e195 : l195 = [] := List.eq_nil_of_length_eq_zero h195
  rw [e0, e1, e2, e3, e4, e5, e6, e7, e8, e9, e10, e11, e12, e13, e14, e15, e16, e17, e18, e19, e20, e21, e22, e23, e24, e25, e26, e27, e28, e29, e30, e31, e32, e33, e34, e35, e36, e37, e38, e39, e40, e41, e42, e43, e44, e45, e46, e47, e48, e49, e50, e51, e52, e53, e54, e55, e56, e57, e58, e59, e60, e61, e62, e63, e64, e65, e66, e67, e68, e69, e70, e71, e72, e73, e74, e75, e76, e77, e78, e79, e80, e81, e82, e83, e84, e85, e86, e87, e88, e89, e90, e91, e92, e93, e94, e95, e96, e97, e98, e99, e100, e101, e102, e103, e104, e105, e106, e107, e108, e109, e110, e111, e112, e113, e114, e115, e116, e117, e118, e119, e120, e121, e122, e123, e124, e125, e126, e127, e128, e129, e130, e131, e132, e133, e134, e135, e136, e137, e138, e139, e140, e141, e142, e143, e144, e145, e146, e147, e148, e149, e150, e151, e152, e153, e154, e155, e156, e157, e158, e159, e160, e161, e162, e163, e164, e165, e166, e167, e168, e169, e170, e171, e172, e173, e174, e175, e176, e177, e178, e179, e180, e181, e182, e183, e184, e185, e186, e187, e188, e189, e190, e191, e192, e193, e194, e195]
  exact H u0 u1 u2 u3 u4 u5 u6 u7 u8 u9 u10 u11 u12 u13 u14 u15 u16 u17 u18 u19 u20 u21 u22 u23 u24 u25 u26 u27 u28 u29 u30 u31 u32 u33 u34 u35 u36 u37 u38 u39 u40 u41 u42 u43 u44 u45 u46 u47 u48 u49 u50 u51 u52 u53 u54 u55 u56 u57 u58 u59 u60 u61 u62 u63 u64 u65 u66 u67 u68 u69 u70 u71 u72 u73 u74 u75 u76 u77 u78 u79 u80 u81 u82 u83 u84 u85 u86 u87 u88 u89 u90 u91 u92 u93 u94 u95 u96 u97 u98 u99 u100 u101 u102 u103 u104 u105 u106 u107 u108 u109 u110 u111 u112 u113 u114 u115 u116 u117 u118 u119 u120 u121 u122 u123 u124 u125 u126 u127 u128 u129 u130 u131 u132 u133 u134 u135 u136 u137 u138 u139 u140 u141 u142 u143 u144 u145 u146 u147 u148 u149 u150 u151 u152 u153 u154 u155 u156 u157 u158 u159 u160 u161 u162 u163 u164 u165 u166 u167 u168 u169 u170 u171 u172 u173 u174 u175 u176 u177 u178 u179 u180 u181 u182 u183 u184 u185 u186 u187 u188 u189 u190 u191 u192 u193 u194
/-- What a round of the law leaves alone of the frame, and what of it is asked behind the call. -/
def Fz (size : Int) (gs off n c' m b q7 k kk q19 : Nat) (z : Value) (T : Array Value) : Prop := T.size = 195 ∧ T.getD 0 undef = .int .i64 size ∧ T.getD 1 undef = .slice (some ⟨gs, off, none⟩) n c' ∧ T.getD 2 undef = undef ∧ T.getD 3 undef = undef ∧ T.getD 5 undef = .int .i64 (m : Int) ∧ T.getD 6 undef = .pointer (some ⟨b, 0, none⟩) ∧ T.getD 7 undef = .pointer (some ⟨q7, 0, none⟩) ∧ T.getD 8 undef = .bool true ∧ T.getD 9 undef = .pointer (some ⟨q7 + 1, 0, none⟩) ∧ T.getD 10 undef = .int .i64 (k : Int) ∧ T.getD 12 undef = .int .i64 (kk : Int) ∧ T.getD 18 undef = z ∧ T.getD 19 undef = .pointer (some ⟨q19, 0, none⟩) ∧ T.getD 24 undef = .int .i64 size ∧ T.getD 25 undef = .int .i64 (m : Int) ∧ T.getD 26 undef = .tuple #[.pointer (some ⟨b, 0, none⟩), .agg #[.int .u64 18, .int .u64 20], .bool true] ∧ T.getD 27 undef = .int .i64 (m : Int) ∧ T.getD 28 undef = .tuple #[.pointer (some ⟨b, 0, none⟩), .agg #[.int .u64 18, .int .u64 20], .bool true] ∧ T.getD 29 undef = .pointer (some ⟨b, 0, none⟩) ∧ T.getD 30 undef = .agg #[.int .u64 18, .int .u64 20] ∧ T.getD 31 undef = .bool true ∧ T.getD 32 undef = .bool true ∧ T.getD 33 undef = .bool false ∧ T.getD 34 undef = .bool false ∧ T.getD 35 undef = .slice (some ⟨gs, off, none⟩) n c' ∧ T.getD 36 undef = .int .i64 (n : Int) ∧ T.getD 37 undef = .bool (decide (400 < (n : Int))) ∧ T.getD 38 undef = .bool (decide (400 < (n : Int))) ∧ T.getD 39 undef = undef ∧ T.getD 40 undef = undef ∧ T.getD 41 undef = undef ∧ T.getD 42 undef = undef ∧ T.getD 194 undef = undef
theorem wp_mid2 {P : Program} {A B R : Code} {Q : Exit → Act → World → Prop} {a : Act} {w : World} (M : Act → World → Prop)
    (h1 : Code.wp P A (Exit.then (Code.wp P B (Exit.then M Q)) Q) a w)
    (h2 : ∀ a w, M a w → Code.wp P R Q a w) : Code.wp P (A.seq (B.seq R)) Q a w := by
  refine wp_seq (Code.wp_mono ?_ h1)
  intro e a w h
  cases e with
  | normal =>
    refine wp_seq (Code.wp_mono ?_ h)
    intro e a w h
    cases e with
    | normal => exact h2 a w h
    | _ => exact h
  | _ => exact h
theorem then_back {P : Program} {K : Act → World → Prop} {Q : Exit → Act → World → Prop} {C : Code} {a : Act} {w : World} (h : ∀ a w, Code.wp P C Q a w → K a w) (h2 : Code.wp P C Q a w) : Exit.then K Q Exit.normal a w := h a w h2
end Go.Proofs.Ytmnbilhblkobdaa
