
/- The walk of RoomApart (layer 20). No statement of the seat is proved here. -/
import Derived.Test.YthelfalmjihkdaaRaM
import Derived.Test.YthelfalmjihkdaaRmN
namespace Go.Proofs.Ythelfalmjihkdaa
open Go Go.RowKit

set_option maxRecDepth 1000000 in
set_option maxHeartbeats 16000000 in
theorem apart_walk (f0 c0 : Int) (hf0 : isW f0) (hc0 : isW c0) (a : Option Addr) (n c : Nat) (w : World) (ho : PsAt w a n) (hn : n * 16 ≤ 140737488351232) :
    Calls Try.prog 4 #[.int .u64 f0, .int .u64 c0, .slice a n c] w fun e w' => e = .returned (.bool true) ∧ Keeps (fun _ => False) w w' := by
  by_cases hn0 : n = 0
  · subst hn0
    have hb1 := tmod_bound f0 hf0 20 (by omega)
    have hb2 := tmod_bound c0 hc0 200 (by omega)
    obtain ⟨f1, hf1⟩ : ∃ x, f0.tmod 20 = x := ⟨_, rfl⟩
    obtain ⟨c1, hc1⟩ : ∃ x, c0.tmod 200 = x := ⟨_, rfl⟩
    rw [hf1] at hb1
    rw [hc1] at hb2
    have HO := hid ho
    obtain ⟨s1, eq1, hR1, hL1⟩ := laid_room (18 + f1) (18 + f1 + c1) (by omega) (by omega) (by omega)
    have HE1 := hid eq1
    have HR1 := hid hR1
    have HL1 := hid hL1
    clear ho eq1 hR1 hL1
    have wf : isW (18 + f1) := ⟨by omega, by omega⟩
    have wt : isW (18 + f1 + c1) := ⟨by omega, by omega⟩
    go_enter Try.func4, Try.ntmps4
    go_wp2_with fail
    refine (over_any 300 (by omega) w).mono ?_
    rintro e_ x0 ⟨t, b, g, cg, rfl, h0, k0, lt, lb, lg⟩
    have HP : Hid (w.heap.size ≤ t ∧ w.heap.size ≤ b ∧ w.heap.size ≤ g) := ⟨lt, lb, lg⟩
    have HH := hid h0
    have HK0 := hid k0
    clear h0 k0 lt lb lg
    go_wp2_with fail
    have hh := HH.out
    refine (lay_r HE1 (lit_isW 0 (by omega)) wf wt hh).mono ?_
    rintro e_ x1 ⟨rfl, h1, k1⟩
    have HH1 := hid h1
    have HK1 : Hid (Keeps (fun _ => False) w x1) := HK0.out.step k1 (fun q hq e => by have p := HP.out; rcases e with rfl | rfl <;> omega)
    clear hh h1 k1 HH HK0 HE1
    go_wp2_with (go_at_call 10; refine (num_any _ _).mono ?_; rintro e_ w_ ⟨rfl, hw_⟩; subst w_)
    go_loopw [10] (fun i wr => i = .int .i64 0 ∧ wr = x1.alloc (.cells #[.slice none 0 0, .slice none 0 0, .slice none 0 0, .slice none 0 0, .slice none 0 0, .slice none 0 0, .slice none 0 0, .slice none 0 0, .slice none 0 0, .slice none 0 0, .slice none 0 0, .slice none 0 0, .slice none 0 0, .slice none 0 0, .slice none 0 0, .slice none 0 0, .slice none 0 0] 43)) (fun _ _ => 0)
    case atStart => exact ⟨rfl, rfl⟩
    case round =>
      obtain ⟨rfl, rfl⟩ := hrel
      have HD := hid (HK1.out.alloc (.cells #[.slice none 0 0, .slice none 0 0, .slice none 0 0, .slice none 0 0, .slice none 0 0, .slice none 0 0, .slice none 0 0, .slice none 0 0, .slice none 0 0, .slice none 0 0, .slice none 0 0, .slice none 0 0, .slice none 0 0, .slice none 0 0, .slice none 0 0, .slice none 0 0, .slice none 0 0] 43))
      go_wp2_with fail
      refine (works_any _).mono ?_
      rintro e_ w9 ⟨rfl, k9⟩
      have HE := hid (HD.out.trans k9)
      clear k9 HD
      go_wp2_with fail
      go_ret
      exact ⟨rfl, HE.out⟩
  · obtain ⟨gs, off, rfl, _⟩ := ho 0 (by omega)
    have hb1 := tmod_bound f0 hf0 20 (by omega)
    have hb2 := tmod_bound c0 hc0 200 (by omega)
    obtain ⟨f1, hf1⟩ : ∃ x, f0.tmod 20 = x := ⟨_, rfl⟩
    obtain ⟨c1, hc1⟩ : ∃ x, c0.tmod 200 = x := ⟨_, rfl⟩
    rw [hf1] at hb1
    rw [hc1] at hb2
    have HO := hid ho
    obtain ⟨s1, eq1, hR1, hL1⟩ := laid_room (18 + f1) (18 + f1 + c1) (by omega) (by omega) (by omega)
    have HE1 := hid eq1
    have HR1 := hid hR1
    have HL1 := hid hL1
    clear ho eq1 hR1 hL1
    have wf : isW (18 + f1) := ⟨by omega, by omega⟩
    have wt : isW (18 + f1 + c1) := ⟨by omega, by omega⟩
    go_enter Try.func4, Try.ntmps4
    go_wp2_with fail
    refine (over_any 300 (by omega) w).mono ?_
    rintro e_ x0 ⟨t, b, g, cg, rfl, h0, k0, lt, lb, lg⟩
    have HP : Hid (w.heap.size ≤ t ∧ w.heap.size ≤ b ∧ w.heap.size ≤ g) := ⟨lt, lb, lg⟩
    have HH := hid h0
    have HK0 := hid k0
    clear h0 k0 lt lb lg
    go_wp2_with fail
    have hh := HH.out
    refine (lay_r HE1 (lit_isW 0 (by omega)) wf wt hh).mono ?_
    rintro e_ x1 ⟨rfl, h1, k1⟩
    have HH1 := hid h1
    have HK1 : Hid (Keeps (fun _ => False) w x1) := HK0.out.step k1 (fun q hq e => by have p := HP.out; rcases e with rfl | rfl <;> omega)
    clear hh h1 k1 HH HK0 HE1
    go_wp2_with (go_at_call 10; refine (num_any _ _).mono ?_; rintro e_ w_ ⟨rfl, hw_⟩; subst w_)
    have HAB : Hid (w.heap.size ≤ x1.heap.size) := HK1.out.size
    have HS0 : Hid (St w t b g cg x1.heap.size f1 c1 0 0 (20 + 20 * ((0 : Nat) : Int)) (.slice none 0 0) (x1.alloc (.cells #[.slice none 0 0, .slice none 0 0, .slice none 0 0, .slice none 0 0, .slice none 0 0, .slice none 0 0, .slice none 0 0, .slice none 0 0, .slice none 0 0, .slice none 0 0, .slice none 0 0, .slice none 0 0, .slice none 0 0, .slice none 0 0, .slice none 0 0, .slice none 0 0, .slice none 0 0] 43))) := by
      have p := HP.out
      have q := HK1.out.size
      have l1 := HH1.out.tx.lt
      have l2 := HH1.out.wd.ltb
      have l3 := HH1.out.wd.ltg
      have kn : Keeps (fun _ => False) x1 (x1.alloc (.cells #[.slice none 0 0, .slice none 0 0, .slice none 0 0, .slice none 0 0, .slice none 0 0, .slice none 0 0, .slice none 0 0, .slice none 0 0, .slice none 0 0, .slice none 0 0, .slice none 0 0, .slice none 0 0, .slice none 0 0, .slice none 0 0, .slice none 0 0, .slice none 0 0, .slice none 0 0] 43)) := (Keeps.refl _ x1).alloc _
      exact ⟨s1, [], fun _ => .slice none 0 0, fun _ => [], ⟨⟨HH1.out.tx.kept kn (fun f => f), HH1.out.wd.kept kn (fun f => f) (fun f => f), HH1.out.ne⟩, alloc_block x1 _, Ow.nil _ _, fun _ _ => Wr.nil _ _, Nat.le_trans q kn.size, ⟨by omega, by omega, by omega⟩, fun q hq => (by cases hq), fun _ _ q hq => (by cases hq), fun _ _ _ _ _ q hq => (by cases hq)⟩, HR1.out, HL1.out.more (by omega) (by omega), Nat.le_refl _, fun _ => Nat.le_refl _, HK1.out.alloc _⟩
    rename_i KK hKK
    have HKK := hid hKK
    clear hKK
    refine wp_loop (fun a w' => a.defers = [] ∧ ∃ k : Nat, k ≤ n ∧ Fx f0 f1 c0 c1 gs off n c t x1.heap.size (k : Int) a.tmps ∧ St w t b g cg x1.heap.size f1 c1 k k (20 + 20 * (k : Int)) (a.tmps.getD 8 undef) w') (fun a _ => n - (intOf (a.tmps.getD 10 undef)).toNat) ?start ?round
    case start => exact ⟨rfl, 0, by omega, ⟨rfl, rfl, rfl, rfl, rfl, rfl, rfl, rfl, rfl, rfl, rfl, rfl, rfl, rfl, rfl, rfl, rfl, rfl, rfl, rfl, rfl, rfl, rfl, rfl, rfl⟩, HS0.out⟩
    case round =>
      intro aa wz hinv
      obtain ⟨TT, DD⟩ := aa
      obtain ⟨hD, k, hk, hF, hS⟩ := hinv
      dsimp only at hD hF hS
      subst hD
      by_cases hlt : k < n
      · refine round_any f0 f1 c0 c1 hb1 hb2 gs off n c t b g cg x1.heap.size k hlt hn w wz HP HAB HO.out _ ?_ TT hF hS
        intro T' w' hF' hS'
        refine ⟨⟨rfl, k + 1, by omega, hF', hS'⟩, ?_⟩
        show n - (intOf (T'.getD 10 undef)).toNat < n - (intOf (TT.getD 10 undef)).toNat
        rw [hF'.i, hF.i]
        simp [intOf]
        omega
      · obtain rfl : k = n := by omega
        have HD : Hid (Keeps (fun _ => False) w wz) := hS.choose_spec.choose_spec.choose_spec.choose_spec.2.2.2.2.2
        refine round_end f0 f1 c0 c1 gs off k c t x1.heap.size wz _ ?_ TT hF
        intro T' hT'
        show KK ⟨T', []⟩ wz
        refine HKK.out _ _ ?_
        clear hF hS
        refine frame_all (G := fun T' => Code.wp Try.prog _ _ ⟨T', []⟩ wz) ?_ T' hT'
        clear hT' T'
        intro u0 u1 u2 u3 u4 u5 u6 u7 u8 u9 u10 u11 u12 u13 u14 u15 u16 u17 u18 u19 u20 u21 u22 u23 u24 u25 u26 u27 u28 u29 u30 u31 u32 u33 u34 u35 u36 u37 u38 u39 u40 u41 u42 u43 u44 u45 u46 u47 u48 u49 u50 u51 u52 u53 u54 u55 u56 u57 u58 u59 u60 u61 u62 u63 u64 u65 u66 u67 u68 u69 u70 u71 u72 u73 u74 u75 u76 u77 u78 u79 u80 u81 u82 u83 u84 u85 u86 u87 u88 u89 u90 u91 u92 u93 u94 u95 u96 u97 u98 u99 u100 u101 u102 u103 u104 u105 u106 u107 u108 u109 u110 u111 u112 u113 u114 u115 u116 u117 u118 u119 u120 u121 u122 u123 u124 u125 u126 u127 u128 u129 u130 u131 u132 u133 u134 u135 u136 u137 u138 u139 u140 u141 u142 u143 u144 u145 u146 u147 u148 u149 u150 u151 u152 u153 u154 u155 u156 u157 u158 u159 u160 u161 u162 u163 u164 u165 u166 u167 u168 u169 u170 u171 u172 u173 u174 u175 u176 u177 u178 u179 u180 u181 u182 u183 u184 u185 u186 u187 u188 u189 u190 u191 u192 u193 u194 u195 u196 u197 u198 u199 u200 u201 u202 u203 u204 u205 u206 u207 u208 u209 u210 u211 u212 u213 u214 u215 u216 u217 u218 u219 u220 u221 u222 u223 u224 u225 u226 u227
        go_wp2_with fail
        refine (works_any _).mono ?_
        rintro e_ w9 ⟨rfl, k9⟩
        have HE := hid (HD.out.trans k9)
        clear k9 HD
        go_wp2_with fail
        go_ret
        exact ⟨rfl, HE.out⟩
end Go.Proofs.Ythelfalmjihkdaa
