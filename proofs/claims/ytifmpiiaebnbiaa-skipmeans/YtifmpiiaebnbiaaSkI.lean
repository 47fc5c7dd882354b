
/- The walk of search (layer 22). No statement of the seat is proved here. -/
import Derived.Test.YtifmpiiaebnbiaaSkI0
namespace Go.Proofs.Ytifmpiiaebnbiaa
open Go.RowKit

/-- What stands where a search goes on, at a level. -/
structure Sr (w : World) (b g c kq : Nat) (key : Int) (p : Int → Bool) (at_ : Int) (s : Wd) (X : World) (lv f : Nat) (la : List Lk) (base : Int) (n : Nat) (s' : Wd) : Prop where
  sx : Sx w b g c kq key X s' la n
  eq : s.search p at_ = sr p (f + 1) la base lv n s'
  fu : 65536 + lv + 1 ≤ f + n
  rm : Rm s' (2 * (f + 1))
  bw : isW base
  nl : n ≤ 65536
  lv8 : lv < 8
theorem lv_wrap {lv : Nat} (h : lv < 8) : IntKind.u64.wrap ((lv : Int) + 1 - 1) = (lv : Int) := by rw [IntKind.wrap_u64]; omega
set_option maxRecDepth 100000 in
set_option maxHeartbeats 4000000 in
theorem search_any {fn kq : Nat} {key : Int} {p : Int → Bool} (E : Pas fn kq key p) (b g c : Nat) (s : Wd) (at_ : Int) (hat : isW at_) (rms : Rm s 131090) (w : World) (h : WdAt 27 w b g c s) (hk : Lo w b g kq (.cells #[.int .u64 key] 32 (0, 0))) :
    Calls Try.prog 44 #[.iface 23 (.pointer (some ⟨b, 0, none⟩)), .int .u64 at_, .func (.func fn) #[] #[.pointer (some ⟨kq, 0, none⟩)]] w fun e w' => e = .returned (.tuple #[lasV (s.search p at_).1.1, .int .i64 (s.search p at_).1.2]) ∧ Hs 27 w b g c w' (s.search p at_).2 := by
  have hent := E.ent
  have HST : Hid (∀ X, X = ((w.alloc (lasO zeros)).alloc (lasO zeros)).alloc (wkO b 0) → Sr w b g c kq key p at_ s X 7 65544 zeros at_ 0 s) := by
    intro X hX
    have k1 := keeps_new w (lasO zeros)
    have k2 := keeps_new (w.alloc (lasO zeros)) (lasO zeros)
    have k3 := keeps_new ((w.alloc (lasO zeros)).alloc (lasO zeros)) (wkO b 0)
    have hb := h.ltb
    have h1 := (Hs.start h).new k1
    have h2 := h1.new k2
    have h3 := h2.new k3
    have e1 : (w.alloc (lasO zeros)).heap.size = w.heap.size + 1 := by simp
    have e2 : ((w.alloc (lasO zeros)).alloc (lasO zeros)).heap.size = w.heap.size + 2 := by simp
    have l8 := Lo.new h1.wd (lasO zeros)
    have lw := Lo.new h2.wd (wkO b 0)
    rw [e1] at l8
    rw [e2] at lw
    subst hX
    exact ⟨⟨h3, ((Lo.new h _).after h1.wd.ltb k2).after h2.wd.ltb k3, l8.after h2.wd.ltb k3, lw, ((hk.after hb k1).after h1.wd.ltb k2).after h2.wd.ltb k3, hk.lt, rfl⟩, rfl, by omega, rms, hat, by omega, by omega⟩
  clear h hk rms hat
  go_enter Try.func44, Try.ntmps44
  go_wp2_with fail
  refine wp_scope_jumps2 0 (fun a' w' => ∃ (lv f : Nat) (la : List Lk) (base : Int) (n : Nat) (s' : Wd) (lz : Int) (u7 u13 u14 u15 u16 u17 u18 u19 u20 u21 u22 u23 u24 u25 u26 u27 u28 u29 u30 u31 u32 u33 u34 u35 u36 u37 u38 u39 u40 u41 u42 u43 u44 u45 u46 u47 u48 u49 u50 u51 u52 u53 : Value), a' = { tmps := #[.iface 23 (.pointer (some ⟨b, 0, none⟩)), .int .u64 at_, .func (.func fn) #[] #[.pointer (some ⟨kq, 0, none⟩)], undef, undef, undef, .pointer (some ⟨w.heap.size, 0, none⟩), u7, .pointer (some ⟨w.heap.size + 1, 0, none⟩), .int .i64 0, .pointer (some ⟨w.heap.size + 2, 0, none⟩), .int .u64 base, .int .u64 lz, u13, u14, u15, u16, u17, u18, u19, u20, u21, u22, u23, u24, u25, u26, u27, u28, u29, u30, u31, u32, u33, u34, u35, u36, u37, u38, u39, u40, u41, u42, u43, u44, u45, u46, u47, u48, u49, u50, u51, u52, u53], defers := [] } ∧ lz = (lv : Int) + 1 ∧ Hid (Sr w b g c kq key p at_ s w' lv f la base n s')) (fun a' _ => (intOf (a'.tmps.getD 12 undef)).toNat) rfl ?_ ?_
  · rintro a' w' ⟨lv, f, la, base, n, s', lz, u7, u13, u14, u15, u16, u17, u18, u19, u20, u21, u22, u23, u24, u25, u26, u27, u28, u29, u30, u31, u32, u33, u34, u35, u36, u37, u38, u39, u40, u41, u42, u43, u44, u45, u46, u47, u48, u49, u50, u51, u52, u53, rfl, rfl, HJ⟩
    clear HST
    have hlv := HJ.out.lv8
    have hwv := lv_wrap hlv
    go_wp2_with fail
    go_loopw [9, 11] (fun er lk_ wr => ∃ (f : Nat) (la : List Lk) (base : Int) (n : Nat) (s' : Wd), er = .int .i64 0 ∧ lk_ = .int .u64 base ∧ Hid (Sr w b g c kq key p at_ s wr lv f la base n s')) (fun _ _ wr => measN wr (w.heap.size + 2))
    case atStart => exact ⟨f, la, base, n, s', rfl, rfl, HJ⟩
    case round =>
      obtain ⟨f, la, base, n, s', rfl, rfl, HY⟩ := hrel
      clear HJ
      obtain ⟨⟨⟨l, e⟩, n', s1⟩, eqf⟩ : ∃ r, s'.fol n (uw (base + lv)) = r := ⟨_, rfl⟩
      have HE : Hid (_ = _) := eqf
      have HOK : Hid (FolOk s' n ((l, e), n', s1)) := by
        have q := fol_ok HY.out.sx.hs.wd.ok n (uw_isW (base + lv))
        rw [eqf] at q
        exact q
      clear eqf
      go_wp2_with fail
      refine (follow_r HE HY.out.nl (uw_isW _) (HY.out.rm.le (by omega)) HY.out.sx.hs.wd HY.out.sx.lw).mono ?_
      rintro e_ w1 ⟨rfl, h1⟩
      have HX := hid (HY.out.sx.fol h1)
      clear h1
      obtain ⟨l1, l2, l3⟩ := l
      unfold Lk.v
      have hq := HX.out.l8.at_
      have q0 := las_c0 hq HX.out.n8 hlv
      have q1 := las_c1 hq HX.out.n8 hlv
      have q2 := las_c2 hq HX.out.n8 hlv
      have qf := las_fr hq
      clear hq
      have HL : Hid (Sx w b g c kq key (((w1.setCell ⟨w.heap.size + 1, lv * 3, none⟩ (.int .u64 l1)).setCell ⟨w.heap.size + 1, lv * 3 + 1, none⟩ (.int .u64 l2)).setCell ⟨w.heap.size + 1, lv * 3 + 2, none⟩ (.int .u64 l3)) s1 (la.set lv ⟨l1, l2, l3⟩) n') := hid (HX.out.last hlv ⟨l1, l2, l3⟩)
      clear HX
      by_cases he : e = 0
      · subst he
        have hq := HL.out.l8.at_
        have hlk : lk (la.set lv ⟨l1, l2, l3⟩) lv = ⟨l1, l2, l3⟩ := lk_set_same HY.out.sx.n8 hlv _
        have r0 := las_c0 hq HL.out.n8 hlv
        have r1 := las_c1 hq HL.out.n8 hlv
        have r2 := las_c2 hq HL.out.n8 hlv
        rw [hlk] at r0 r1 r2
        dsimp only at r0 r1 r2
        clear hq hlk
        by_cases hl2 : l2 = 0
        · subst hl2
          go_wp2_with fail
          refine (leads_any ⟨l1, 0, l3⟩ _).mono ?_
          rintro e_ w2 ⟨rfl, k2⟩
          have HZ := hid (HL.out.new k2)
          have HNP : Hid (¬ ((0 : Int) ≠ 0 ∧ p l3 = true)) := hid (fun q => q.1 rfl)
          clear HL k2 q0 q1 q2 qf r0 r1 r2
          unfold Lk.leads
          by_cases hz0 : lv = 0
          · subst hz0
            have HEQ : Hid (s.search p at_ = ((la.set 0 ⟨l1, 0, l3⟩, 0), s1)) := hid (HY.out.eq.trans (sr_end HE.out HNP.out))
            have h88 := HZ.out.n8
            clear HY HE HNP HOK
            generalize la.set 0 ⟨l1, 0, l3⟩ = lb at HZ HEQ h88
            go_wp2_with (first | (refine wpList_load_row rfl 90 _ rfl (w.heap.size + 1) rfl 90 (lcs lb) (0, 0) _ HZ.out.l8.at_ Try.underlying90 rfl (by rw [size_las, lcs_size, h88]) ?_) | (refine wpList_store_row rfl 90 _ _ rfl w.heap.size (lcs lb) rfl rfl 90 (lcs zeros) HZ.out.l6.at_ (by rw [size_las, lcs_size, h88]) (by rw [lcs_size, lcs_size, h88]; rfl) (lcs_one _) ?_))
            try simp only [Exit.jump]
            refine bodyPost_ret (las_ret rfl _ _ w.heap.size lb h88 (setRow_at HZ.out.l6.at_ (lcs lb)) rfl) rfl ?_
            rw [HEQ.out]
            exact ⟨rfl, HZ.out.out _⟩
          · have hpos : (0 : Int) < (lv : Int) := by omega
            have HJ2 : Hid (Sr w b g c kq key p at_ s w2 (lv - 1) (f - 1) (la.set lv ⟨l1, 0, l3⟩) base n' s1) := by
              obtain ⟨m, rfl⟩ : ∃ m, lv = m + 1 := ⟨lv - 1, by omega⟩
              have hy := HY.out
              have hok := HOK.out
              have hge : n ≤ n' := hok.ge
              have hle : n' ≤ 65536 := hok.le hy.nl
              have hfu := hy.fu
              obtain ⟨f', rfl⟩ : ∃ f', f = f' + 1 := ⟨f - 1, by omega⟩
              refine hid ⟨HZ.out, hy.eq.trans (sr_down HE.out HNP.out), ?_, ?_, hy.bw, hle, ?_⟩
              · show 65536 + m + 1 ≤ f' + n'
                omega
              · have q := hok.len
                have hrm := hy.rm
                unfold Rm at hrm ⊢
                have q2 : s1.L.length ≤ s'.L.length + 2 := q
                show s1.L.length + 2 * (f' + 1) ≤ 1000000
                omega
              · show m < 8
                omega
            clear HY HE HNP HOK HZ
            go_wp2_with fail
            go_step3
            try simp only [Exit.then]
            refine ⟨rfl, ⟨lv - 1, f - 1, la.set lv ⟨l1, 0, l3⟩, base, n', s1, (lv : Int), _, _, _, _, _, _, _, _, _, _, _, _, _, _, _, _, _, _, _, _, _, _, _, _, _, _, _, _, _, _, _, _, _, _, _, _, _, _, _, _, _, _, rfl, by omega, HJ2⟩, ?_⟩
            simp [intOf]
        · have hlb : (l2 != 0) = true := by simpa using hl2
          go_wp2_with fail
          refine (leads_any ⟨l1, l2, l3⟩ _).mono ?_
          rintro e_ w2 ⟨rfl, k2⟩
          have HZ := hid (HL.out.new k2)
          have hq := HZ.out.l8.at_
          have hlk : lk (la.set lv ⟨l1, l2, l3⟩) lv = ⟨l1, l2, l3⟩ := lk_set_same HY.out.sx.n8 hlv _
          clear HL k2 q0 q1 q2 qf r0 r1 r2
          have r0 := las_c0 hq HZ.out.n8 hlv
          have r1 := las_c1 hq HZ.out.n8 hlv
          have r2 := las_c2 hq HZ.out.n8 hlv
          rw [hlk] at r0 r1 r2
          dsimp only at r0 r1 r2
          clear hq hlk
          unfold Lk.leads
          simp only [hlb]
          go_wp2_with fail
          refine (E.call l3 _ HZ.out.lk.at_).mono ?_
          rintro e_ w_ ⟨rfl, hw_⟩
          subst w_
          cases hp : p l3 with
          | true =>
            have HNX : Hid (∀ Z, Sx w b g c kq key Z s1 (la.set lv ⟨l1, l2, l3⟩) n' → Sr w b g c kq key p at_ s Z lv (f - 1) (la.set lv ⟨l1, l2, l3⟩) (uw (uw (l2 - 1) + 2)) n' s1) := by
              intro Z hz
              have hy := HY.out
              have hok := HOK.out
              have hup : n' = n + 1 := hok.up rfl hl2
              have hle : n' ≤ 65536 := hok.le hy.nl
              have hfu := hy.fu
              obtain ⟨f', rfl⟩ : ∃ f', f = f' + 1 := ⟨f - 1, by omega⟩
              refine ⟨hz, hy.eq.trans (sr_pass HE.out ⟨hl2, hp⟩), ?_, ?_, uw_isW _, hle, hlv⟩
              · show 65536 + lv + 1 ≤ f' + n'
                omega
              · have q := hok.len
                have hrm := hy.rm
                unfold Rm at hrm ⊢
                have q2 : s1.L.length ≤ s'.L.length + 2 := q
                show s1.L.length + 2 * (f' + 1) ≤ 1000000
                omega
            have HMS : Hid (measN wr (w.heap.size + 2) = (65536 - (n : Int)).toNat ∧ n' = n + 1 ∧ n' ≤ 65536) := hid ⟨measN_of HY.out.sx.lw.at_, HOK.out.up rfl hl2, HOK.out.le HY.out.nl⟩
            clear HY HE HOK
            go_wp2_with fail
            refine (node_any ⟨l1, l2, l3⟩ _).mono ?_
            rintro e_ w3 ⟨rfl, k3⟩
            have H3 := hid (HZ.out.new k3)
            clear HZ k3 r0 r1 r2
            unfold Lk.nd
            go_wp2_with fail
            go_roundw
            case rel => exact ⟨f - 1, la.set lv ⟨l1, l2, l3⟩, _, n', s1, rfl, rfl, hid (HNX.out _ H3.out)⟩
            case measure =>
              have q := HMS.out
              rw [measN_of H3.out.lw.at_, q.1]
              omega
          | false =>
            have HNP : Hid (¬ (l2 ≠ 0 ∧ p l3 = true)) := hid (fun q => by rw [hp] at q; exact absurd q.2 (by simp))
            clear r0 r1 r2
            by_cases hz0 : lv = 0
            · subst hz0
              have HEQ : Hid (s.search p at_ = ((la.set 0 ⟨l1, l2, l3⟩, 0), s1)) := hid (HY.out.eq.trans (sr_end HE.out HNP.out))
              have h88 := HZ.out.n8
              clear HY HE HNP HOK
              generalize la.set 0 ⟨l1, l2, l3⟩ = lb at HZ HEQ h88
              go_wp2_with (first | (refine wpList_load_row rfl 90 _ rfl (w.heap.size + 1) rfl 90 (lcs lb) (0, 0) _ HZ.out.l8.at_ Try.underlying90 rfl (by rw [size_las, lcs_size, h88]) ?_) | (refine wpList_store_row rfl 90 _ _ rfl w.heap.size (lcs lb) rfl rfl 90 (lcs zeros) HZ.out.l6.at_ (by rw [size_las, lcs_size, h88]) (by rw [lcs_size, lcs_size, h88]; rfl) (lcs_one _) ?_))
              try simp only [Exit.jump]
              refine bodyPost_ret (las_ret rfl _ _ w.heap.size lb h88 (setRow_at HZ.out.l6.at_ (lcs lb)) rfl) rfl ?_
              rw [HEQ.out]
              exact ⟨rfl, HZ.out.out _⟩
            · have hpos : (0 : Int) < (lv : Int) := by omega
              have HJ2 : Hid (Sr w b g c kq key p at_ s w2 (lv - 1) (f - 1) (la.set lv ⟨l1, l2, l3⟩) base n' s1) := by
                obtain ⟨m, rfl⟩ : ∃ m, lv = m + 1 := ⟨lv - 1, by omega⟩
                have hy := HY.out
                have hok := HOK.out
                have hge : n ≤ n' := hok.ge
                have hle : n' ≤ 65536 := hok.le hy.nl
                have hfu := hy.fu
                obtain ⟨f', rfl⟩ : ∃ f', f = f' + 1 := ⟨f - 1, by omega⟩
                refine hid ⟨HZ.out, hy.eq.trans (sr_down HE.out HNP.out), ?_, ?_, hy.bw, hle, ?_⟩
                · show 65536 + m + 1 ≤ f' + n'
                  omega
                · have q := hok.len
                  have hrm := hy.rm
                  unfold Rm at hrm ⊢
                  have q2 : s1.L.length ≤ s'.L.length + 2 := q
                  show s1.L.length + 2 * (f' + 1) ≤ 1000000
                  omega
                · show m < 8
                  omega
              clear HY HE HNP HOK HZ
              go_wp2_with fail
              go_step3
              try simp only [Exit.then]
              refine ⟨rfl, ⟨lv - 1, f - 1, la.set lv ⟨l1, l2, l3⟩, base, n', s1, (lv : Int), _, _, _, _, _, _, _, _, _, _, _, _, _, _, _, _, _, _, _, _, _, _, _, _, _, _, _, _, _, _, _, _, _, _, _, _, _, _, _, _, _, _, rfl, by omega, HJ2⟩, ?_⟩
              simp [intOf]
      · have HEQ : Hid (s.search p at_ = ((zeros, e), s1)) := hid (HY.out.eq.trans (sr_err HE.out he))
        go_wp2_with (refine wpList_store_row rfl 90 _ _ rfl w.heap.size (lcs zeros) rfl rfl 90 (lcs zeros) HL.out.l6.at_ (by rw [size_las]; rfl) rfl (lcs_one _) ?_)
        try simp only [Exit.jump]
        refine bodyPost_ret (las_ret rfl _ _ w.heap.size zeros rfl (setRow_at HL.out.l6.at_ (lcs zeros)) rfl) rfl ?_
        rw [HEQ.out]
        exact ⟨rfl, HL.out.out _⟩
  · intro HP
    go_wp2_with fail
    refine wp_label ?_
    rename_i K hK
    refine hK _ _ (HP _ _ ⟨7, 65544, zeros, at_, 0, s, 8, _, _, _, _, _, _, _, _, _, _, _, _, _, _, _, _, _, _, _, _, _, _, _, _, _, _, _, _, _, _, _, _, _, _, _, _, _, _, _, _, _, _, rfl, rfl, hid (HST.out _ rfl)⟩)
theorem search_r {fn kq : Nat} {key : Int} {p : Int → Bool} (E : Pas fn kq key p) {b g c : Nat} {s : Wd} {at_ e1 : Int} {la : List Lk} {s1 : Wd} (heq : Hid (s.search p at_ = ((la, e1), s1))) (hat : isW at_) (rms : Rm s 131090) {w : World} (h : WdAt 27 w b g c s) (hk : Lo w b g kq (.cells #[.int .u64 key] 32 (0, 0))) :
    Calls Try.prog 44 #[.iface 23 (.pointer (some ⟨b, 0, none⟩)), .int .u64 at_, .func (.func fn) #[] #[.pointer (some ⟨kq, 0, none⟩)]] w fun e w' => e = .returned (.tuple #[lasV la, .int .i64 e1]) ∧ Hs 27 w b g c w' s1 := by
  have q := search_any E b g c s at_ hat rms w h hk
  rw [heq.out] at q
  exact q
end Go.Proofs.Ytifmpiiaebnbiaa
