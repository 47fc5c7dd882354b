/-
  No statement of the seat is proved here. (Several texts in one: SrD, SrE.)
-/
import Derived.Test.YtjgibkofenkehaaSrC
import Derived.Test.YtjgibkofenkehaaSrBM

/- The walk of the document's First (layer 22). No statement of the seat is proved here. -/
namespace Go.Proofs.Ytjgibkofenkehaa
open Go.RowKit

theorem get_err {s s1 : Wd} {a x e : Int} (h : s.get a = ((x, e), s1)) (he : e ≠ 0) : x = 0 := by
  unfold Wd.get at h
  split at h
  · simp only [Prod.mk.injEq] at h; exact h.1.1.symm
  · simp only [Prod.mk.injEq] at h; exact absurd h.1.2.symm he
set_option maxHeartbeats 2000000 in
theorem rfirst_any (b g c : Nat) (s : Wd) (at_ : Int) (hat : isW at_) (rms : Rm s 2) (w : World) (h : WdAt 30 w b g c s) :
    Calls Try.prog 36 #[.pointer (some ⟨b, 0, none⟩), .int .u64 at_] w fun e w' => e = .returned (.tuple #[.int .u64 (s.first at_).1.1, .bool (s.first at_).1.2.1, .int .i64 (s.first at_).1.2.2]) ∧ Hs 30 w b g c w' (s.first at_).2 := by
  have oks : s.Ok := h.ok
  have HH := hid (Hs.start h)
  clear h
  obtain ⟨⟨⟨x, e⟩, s1⟩, eq1⟩ : ∃ r, s.get (at_) = r := ⟨_, rfl⟩
  have hwx : isW x := get_isW eq1 oks
  have oks1 : s1.Ok := by have q := (oks.get (at_)).1; rw [eq1] at q; exact q
  have rms1 : Rm s1 1 := rms.get eq1
  by_cases hze : e = 0
  · subst hze
    by_cases hzx : x = 0
    · subst hzx
      have hs : s.first at_ = ((0, false, 0), s1) := by
        unfold Wd.first
        simp [eq1, Wd.fol, Lk.leads]
      rw [hs]
      have HE1 : Hid (_ = _) := eq1
      clear hs eq1
      go_enter Try.func36, Try.ntmps36
      go_wp2_with fail
      have hh := HH.out
      refine (wget_r HE1 hat (rms.le (by omega)) hh.wd).mono ?_
      rintro e_ w1 ⟨rfl, h1⟩
      replace HH := hid (hh.trans h1)
      clear hh h1
      go_wp2_with fail
      go_ret3
      exact ⟨rfl, HH.out⟩
    · skip
      obtain ⟨⟨⟨y, f⟩, s2⟩, eq2⟩ : ∃ r, s1.get (uw (x - 1)) = r := ⟨_, rfl⟩
      have hwy : isW y := get_isW eq2 oks1
      have oks2 : s2.Ok := by have q := (oks1.get (uw (x - 1))).1; rw [eq2] at q; exact q
      have rms2 : Rm s2 0 := rms1.get eq2
      by_cases hzf : f = 0
      · subst hzf
        have hs : s.first at_ = ((y, true, 0), s2) := by
          unfold Wd.first
          simp [eq1, eq2, hzx, Wd.fol, Lk.leads]
        rw [hs]
        have HE1 : Hid (_ = _) := eq1
        have HE2 : Hid (_ = _) := eq2
        clear hs eq1 eq2
        go_enter Try.func36, Try.ntmps36
        go_wp2_with fail
        have hh := HH.out
        refine (wget_r HE1 hat (rms.le (by omega)) hh.wd).mono ?_
        rintro e_ w1 ⟨rfl, h1⟩
        replace HH := hid (hh.trans h1)
        clear hh h1
        go_wp2_with fail
        have hh := HH.out
        refine (wget_r HE2 (uw_isW _) (rms1.le (by omega)) hh.wd).mono ?_
        rintro e_ w2 ⟨rfl, h2⟩
        replace HH := hid (hh.trans h2)
        clear hh h2
        go_wp2_with fail
        go_ret3
        exact ⟨rfl, HH.out⟩
      · skip
        have hfb : (f == 0) = false := by simpa using hzf
        obtain rfl : y = 0 := get_err eq2 hzf
        have hs : s.first at_ = ((0, false, f), s2) := by
          unfold Wd.first
          simp [eq1, eq2, hzx, hzf, Wd.fol, Lk.leads, Lk.zero]
        rw [hs]
        have HE1 : Hid (_ = _) := eq1
        have HE2 : Hid (_ = _) := eq2
        clear hs eq1 eq2
        go_enter Try.func36, Try.ntmps36
        go_wp2_with fail
        have hh := HH.out
        refine (wget_r HE1 hat (rms.le (by omega)) hh.wd).mono ?_
        rintro e_ w1 ⟨rfl, h1⟩
        replace HH := hid (hh.trans h1)
        clear hh h1
        go_wp2_with fail
        have hh := HH.out
        refine (wget_r HE2 (uw_isW _) (rms1.le (by omega)) hh.wd).mono ?_
        rintro e_ w2 ⟨rfl, h2⟩
        replace HH := hid (hh.trans h2)
        clear hh h2
        go_wp2_with fail
        go_ret3
        exact ⟨rfl, HH.out⟩
  · skip
    have hs : s.first at_ = ((0, false, e), s1) := by
      unfold Wd.first
      simp [eq1, hze, Wd.fol, Lk.leads, Lk.zero]
    rw [hs]
    have HE1 : Hid (_ = _) := eq1
    clear hs eq1
    go_enter Try.func36, Try.ntmps36
    go_wp2_with fail
    have hh := HH.out
    refine (wget_r HE1 hat (rms.le (by omega)) hh.wd).mono ?_
    rintro e_ w1 ⟨rfl, h1⟩
    replace HH := hid (hh.trans h1)
    clear hh h1
    go_wp2_with fail
    go_ret3
    exact ⟨rfl, HH.out⟩
theorem rfirst_r {b g c : Nat} {s : Wd} {at_ : Int} {x1 : Int} {b1 : Bool} {e1 : Int} {s1 : Wd} (heq : Hid (s.first at_ = ((x1, b1, e1), s1))) (hat : isW at_) (rms : Rm s 2) {w : World} (h : WdAt 30 w b g c s) :
    Calls Try.prog 36 #[.pointer (some ⟨b, 0, none⟩), .int .u64 at_] w fun e w' => e = .returned (.tuple #[.int .u64 x1, .bool b1, .int .i64 e1]) ∧ Hs 30 w b g c w' s1 := by
  have q := rfirst_any b g c s at_ hat rms w h
  rw [heq.out] at q
  exact q
end Go.Proofs.Ytjgibkofenkehaa


/- The walk of the document's Keys (layer 22). No statement of the seat is proved here. -/
namespace Go.Proofs.Ytjgibkofenkehaa
open Go.RowKit

/-- All words, from a link's cell on. -/
def kf (f : Nat) (out : List Int) (cell : Int) (s : Wd) : (List Int × Int) × Wd := match s.fol out.length cell with
  | ((l, e), n, s1) => eachL f out l e n s1
theorem kf_next {f : Nat} {out : List Int} {cell x k : Int} {s s1 s2 : Wd} (h1 : s.get cell = ((x, 0), s1)) (hx : x ≠ 0) (hn : out.length ≠ 65536) (h2 : s1.get (uw (x - 1)) = ((k, 0), s2)) : kf (f + 1) out cell s = kf f (out ++ [k]) (uw (uw (x - 1) + 2)) s2 := by
  unfold kf
  rw [fol_y h1 hx hn h2]
  dsimp only
  conv => lhs; unfold eachL
  rw [if_pos ⟨rfl, hx⟩]
  unfold Lk.nd
  dsimp only
  rw [show (out ++ [k]).length = out.length + 1 by simp]
theorem kf_e1 {f : Nat} {out : List Int} {cell x e : Int} {s s1 : Wd} (h1 : s.get cell = ((x, e), s1)) (he : e ≠ 0) : kf f out cell s = ((out, e), s1) := by
  unfold kf
  rw [fol_e1 h1 he]
  dsimp only
  cases f with
  | zero => rfl
  | succ f => unfold eachL; rw [if_neg (fun q => he q.1)]
theorem kf_z {f : Nat} {out : List Int} {cell : Int} {s s1 : Wd} (h1 : s.get cell = ((0, 0), s1)) : kf f out cell s = ((out, 0), s1) := by
  unfold kf
  rw [fol_z h1]
  dsimp only
  cases f with
  | zero => rfl
  | succ f => unfold eachL; rw [if_neg (by simp)]
theorem kf_full {f : Nat} {out : List Int} {cell x : Int} {s s1 : Wd} (h1 : s.get cell = ((x, 0), s1)) (hx : x ≠ 0) (hn : out.length = 65536) : kf f out cell s = ((out, 320), s1) := by
  unfold kf
  rw [hn, fol_full h1 hx]
  dsimp only
  cases f with
  | zero => rfl
  | succ f => unfold eachL; rw [if_neg (by simp)]
theorem kf_e2 {f : Nat} {out : List Int} {cell x k e : Int} {s s1 s2 : Wd} (h1 : s.get cell = ((x, 0), s1)) (hx : x ≠ 0) (hn : out.length ≠ 65536) (h2 : s1.get (uw (x - 1)) = ((k, e), s2)) (he : e ≠ 0) : kf f out cell s = ((out, e), s2) := by
  unfold kf
  rw [fol_e2 h1 hx hn h2 he]
  dsimp only
  cases f with
  | zero => rfl
  | succ f => unfold eachL; rw [if_neg (fun q => he q.1)]
theorem keys_of {s s' : Wd} {at_ e : Int} {out : List Int} (h : s.each at_ = ((out, e), s')) : s.keys at_ = ((if e ≠ 0 then [] else out, e), s') := by
  unfold Wd.keys
  rw [h]
  dsimp only
  split
  · rfl
  · rename_i q
    rw [Classical.not_not.1 q]
structure Kr (w : World) (b g c : Nat) (s : Wd) (at_ : Int) (X : World) (f : Nat) (v : Value) (out : List Int) (cell : Int) (s' : Wd) : Prop where
  hs : Hs 30 w b g c X s'
  row : Wr X w.heap.size v out
  no : ∀ k, v.ownBlock = some k → ¬ own X b g k
  eq : s.each at_ = kf f out cell s'
  fu : 65536 < f + out.length
  le : out.length ≤ 65536
  rm : Rm s' (2 * f)
  cw : isW cell
theorem Wr.push2 {w : World} {base b g c : Nat} {s : Wd} {v : Value} {l : List Int} (hwd : WdAt 30 w b g c s) (h : Wr w base v l) (hno : ∀ k, v.ownBlock = some k → ¬ own w b g k) (hb : base ≤ w.heap.size) (hl : l.length ≤ 65536) (x : Int) :
    ∃ v' w', (Builtin.append_ #[22, 22] 22 #[v, .slice (some ⟨w.heap.size, 0, none⟩) 1 1]).run Try.prog (w.alloc (.cells #[.int .u64 x] 32)) = .ok v' w' ∧ Wr w' base v' (l ++ [x]) ∧ (∀ k, v'.ownBlock = some k → ¬ own w' b g k) ∧ Keeps (fun k => v.ownBlock = some k) w w' := by
  have k0 : Keeps (fun _ => False) w (w.alloc (.cells #[.int .u64 x] 32)) := keeps_new w _
  have b0 := alloc_block w (.cells #[.int .u64 x] 32)
  obtain ⟨v', w', r1, r2, r3, r4⟩ := own_push (P := Try.prog) (w.alloc (.cells #[.int .u64 x] 32)) base 22 22 32 (.int .u64 0) 1 8 Try.underlying22 info_word rfl (by decide) v l.length (wordsV l) (own_keeps h k0 (fun _ _ f => f)) ⟨w.heap.size, 0, none⟩ 1 1 [.int .u64 x] rfl (fun j u hj => by
    rw [addr_add, Nat.zero_add, cell_of_block b0]
    simpa using hj) (by simp [Value.oneCell']) (by omega) (by decide) (by simp; omega)
  have kA : Keeps (fun k => v.ownBlock = some k) w w' := ⟨r3.os.trans k0.os, r3.tape.trans k0.tape, r3.output.trans k0.output, Nat.le_trans k0.size r3.size, fun i hi hs => (r3.block i (by simp; omega) (fun e => hs e.symm)).trans (k0.block i hi (fun f => f))⟩
  have ho := own_kept hwd.ltb kA (fun i hi e => hno i e hi)
  refine ⟨v', w', r1, ?_, fun k hk eo => ?_, kA⟩
  · have r2' : w'.ownsRow base 32 1 v' (l ++ [x]).length (wordsV (l ++ [x])) := by
      rw [wordsV_append, List.length_append]
      exact r2
    exact r2'
  · have eo' := (ho k).1 eo
    rcases r4 with e | e
    · exact hno k (by rw [← e]; exact hk) eo'
    · have h1 := e k hk
      have h2 := hwd.lto eo'
      simp at h1
      omega
set_option maxRecDepth 100000 in
set_option maxHeartbeats 2000000 in
theorem rkeys_any (b g c : Nat) (s : Wd) (at_ : Int) (hat : isW at_) (rms : Rm s 131100) (w : World) (h : WdAt 30 w b g c s) :
    Calls Try.prog 38 #[.pointer (some ⟨b, 0, none⟩), .int .u64 at_] w fun e w' => ∃ v, e = .returned (.tuple #[v, .int .i64 (s.keys at_).1.2]) ∧ Wr w' w.heap.size v (s.keys at_).1.1 ∧ (∀ k, v.ownBlock = some k → ¬ own w' b g k) ∧ Hs 30 w b g c w' (s.keys at_).2 := by
  have HR : Hid (Kr w b g c s at_ w FU (.slice none 0 0) [] at_ s) := hid ⟨Hs.start h, Wr.nil _ _, fun k hk => by simp [Value.ownBlock] at hk, rfl, by unfold FU; simp, by simp, rms.le (by unfold FU; omega), hat⟩
  clear h
  go_enter Try.func38, Try.ntmps38
  go_wp2_with fail
  go_loopw [6, 7] (fun ov cv wr => ∃ (f : Nat) (v : Value) (out : List Int) (cell : Int) (s' : Wd), ov = v ∧ cv = .int .u64 cell ∧ Hid (Kr w b g c s at_ wr f v out cell s')) (fun ov _ _ => 65537 - lenOf ov)
  case atStart => exact ⟨FU, _, [], at_, s, rfl, rfl, HR⟩
  case round =>
    obtain ⟨f, v, out, cell, s', rfl, rfl, HY⟩ := hrel
    clear HR
    obtain ⟨ak, ck, rfl⟩ := HY.out.row.form
    have hf1 : 1 ≤ f := by have := HY.out.fu; have := HY.out.le; omega
    obtain ⟨⟨⟨x, e⟩, s1⟩, eq1⟩ : ∃ r, s'.get cell = r := ⟨_, rfl⟩
    have rms1 : Rm s1 1 := (HY.out.rm.le (by omega) : Rm s' 2).get eq1
    have HE1 : Hid (_ = _) := eq1
    have hnl := HY.out.le
    by_cases he : e = 0
    · subst he
      by_cases hx : x = 0
      · subst hx
        have HEQ : Hid (s.keys at_ = ((out, 0), s1)) := hid (keys_of (HY.out.eq.trans (kf_z eq1)))
        clear eq1
        go_wp2_with fail
        refine (wget_r HE1 HY.out.cw (HY.out.rm.le (by omega)) HY.out.hs.wd).mono ?_
        rintro e_ w1 ⟨rfl, h1⟩
        have H1 : Hid (Wr w1 w.heap.size (.slice ak out.length ck) out ∧ (∀ k, (Value.slice ak out.length ck).ownBlock = some k → ¬ own w1 b g k) ∧ Hs 30 w b g c w1 s1) := hid ⟨own_keeps HY.out.row h1.k.k (fun k hk e => e.elim (HY.out.no k hk) (fun f => f)), fun k hk eo => by
          rcases h1.k.f k eo with r | r
          · exact HY.out.no k hk r
          · have := (own_block HY.out.row hk).1; omega, HY.out.hs.trans h1⟩
        clear HY h1 HE1
        go_wp2_with fail
        go_ret2
        rw [HEQ.out]
        exact ⟨_, rfl, H1.out⟩
      · have hxb : (x == 0) = false := by simpa using hx
        by_cases hn : out.length = 65536
        · have HEQ : Hid (s.keys at_ = (([], 320), s1)) := hid (keys_of (HY.out.eq.trans (kf_full eq1 hx hn)))
          clear eq1
          rw [hn]
          go_wp2_with fail
          refine (wget_r HE1 HY.out.cw (HY.out.rm.le (by omega)) HY.out.hs.wd).mono ?_
          rintro e_ w1 ⟨rfl, h1⟩
          have H1 := hid (HY.out.hs.trans h1)
          clear HY h1 HE1
          go_wp2_with fail
          go_ret2
          rw [HEQ.out]
          exact ⟨_, rfl, Wr.nil _ _, fun k hk => by simp [Value.ownBlock] at hk, H1.out⟩
        · obtain ⟨z, hz⟩ : ∃ z : Int, (out.length : Int) = z := ⟨_, rfl⟩
          have hzb : (z == 65536) = false := by simp; omega
          have HZ := hid hz
          have HN := hid hn
          obtain ⟨⟨⟨k, e2⟩, s2⟩, eq2⟩ : ∃ r, s1.get (uw (x - 1)) = r := ⟨_, rfl⟩
          have HE2 : Hid (_ = _) := eq2
          by_cases he2 : e2 = 0
          · subst he2
            have HNX : Hid (s.each at_ = kf (f - 1) (out ++ [k]) (uw (uw (x - 1) + 2)) s2) := by
              obtain ⟨f', rfl⟩ : ∃ f', f = f' + 1 := ⟨f - 1, by omega⟩
              exact hid (HY.out.eq.trans (kf_next eq1 hx hn eq2))
            have HRM : Hid (Rm s2 (2 * (f - 1))) := by
              have hr := HY.out.rm
              have q1 := get_len s' cell
              have q2 := get_len s1 (uw (x - 1))
              rw [eq1] at q1
              rw [eq2] at q2
              have q1' : s1.L.length = s'.L.length + 1 := q1
              have q2' : s2.L.length = s1.L.length + 1 := q2
              unfold Rm at hr ⊢
              refine hid ?_
              omega
            clear eq1 eq2 hn
            go_wp2_with fail
            refine (wget_r HE1 HY.out.cw (HY.out.rm.le (by omega)) HY.out.hs.wd).mono ?_
            rintro e_ w1 ⟨rfl, h1⟩
            have H1 := hid h1
            clear h1 HE1
            go_wp2_with fail
            refine (wget_r HE2 (uw_isW _) rms1 H1.out.wd).mono ?_
            rintro e_ w2 ⟨rfl, h2⟩
            have h12 := H1.out.trans h2
            have hrow : Wr w2 w.heap.size (.slice ak out.length ck) out := own_keeps HY.out.row h12.k.k (fun k hk e => e.elim (HY.out.no k hk) (fun f => f))
            have hno : ∀ i, (Value.slice ak out.length ck).ownBlock = some i → ¬ own w2 b g i := fun i hk eo => by
              rcases h12.k.f i eo with r | r
              · exact HY.out.no i hk r
              · have := (own_block HY.out.row hk).1; omega
            have hsz : w.heap.size ≤ w2.heap.size := Nat.le_trans HY.out.hs.k.k.size h12.k.k.size
            obtain ⟨v', w3, hrun, hr3, hno3, k3⟩ := hrow.push2 h12.wd hno hsz hnl k
            have HK : Hid (Kr w b g c s at_ w3 (f - 1) v' (out ++ [k]) (uw (uw (x - 1) + 2)) s2) := by
              have hfu := HY.out.fu
              have hN := HN.out
              exact hid ⟨(HY.out.hs.trans h12).step k3 (fun i e => ⟨(own_block hrow e).2, hno i e⟩), hr3, hno3, HNX.out, by simp; omega, by simp; omega, HRM.out, uw_isW _⟩
            obtain ⟨a3, c3, rfl⟩ := hr3.form
            rw [show (out ++ [k]).length = out.length + 1 by simp] at HK hrun
            have HRU : Hid (_ = _) := hrun
            clear H1 h2 HE2 h12 hrow hno hrun hr3 hno3 k3 HNX HRM
            go_wp2_with (at_builtin; refine wpList_append_run rfl _ _ 22 rfl rfl rfl HRU.out ?_)
            clear HRU
            go_roundw
            case rel => exact ⟨f - 1, _, out ++ [k], _, s2, rfl, rfl, HK⟩
            case measure =>
              have hN := HN.out
              simp [lenOf]
              omega
          · have HEQ : Hid (s.keys at_ = (([], e2), s2)) := by
              have q := keys_of (HY.out.eq.trans (kf_e2 (f := f) eq1 hx hn eq2 he2))
              rw [if_pos he2] at q
              exact hid q
            clear eq1 eq2 hn
            go_wp2_with fail
            refine (wget_r HE1 HY.out.cw (HY.out.rm.le (by omega)) HY.out.hs.wd).mono ?_
            rintro e_ w1 ⟨rfl, h1⟩
            have H1 := hid (HY.out.hs.trans h1)
            clear HY h1 HE1
            go_wp2_with fail
            refine (wget_r HE2 (uw_isW _) rms1 H1.out.wd).mono ?_
            rintro e_ w2 ⟨rfl, h2⟩
            have H2 := hid (H1.out.trans h2)
            clear H1 h2 HE2
            go_wp2_with fail
            go_ret2
            rw [HEQ.out]
            exact ⟨_, rfl, Wr.nil _ _, fun k hk => by simp [Value.ownBlock] at hk, H2.out⟩
    · have HEQ : Hid (s.keys at_ = (([], e), s1)) := by
        have q := keys_of (HY.out.eq.trans (kf_e1 (f := f) eq1 he))
        rw [if_pos he] at q
        exact hid q
      clear eq1
      go_wp2_with fail
      refine (wget_r HE1 HY.out.cw (HY.out.rm.le (by omega)) HY.out.hs.wd).mono ?_
      rintro e_ w1 ⟨rfl, h1⟩
      have H1 := hid (HY.out.hs.trans h1)
      clear HY h1 HE1
      go_wp2_with fail
      go_ret2
      rw [HEQ.out]
      exact ⟨_, rfl, Wr.nil _ _, fun k hk => by simp [Value.ownBlock] at hk, H1.out⟩
end Go.Proofs.Ytjgibkofenkehaa
