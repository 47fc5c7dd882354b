
/- The walk of hang (layer 22). No statement of the seat is proved here. -/
import Derived.Test.YtifmpiiaebnbiaaSkJ
namespace Go.Proofs.Ytifmpiiaebnbiaa
open Go.RowKit

theorem Rm.le2 {s s1 : Wd} {k j : Nat} (_ : Rm s1 j) (h : Rm s k) (hj : 1 ≤ k) : Rm s 1 := h.le hj
/-- What stands in the loop of hang. -/
structure Hg (w : World) (b g c q : Nat) (node : Int) (la : List Lk) (m : Nat) (s : Wd) (X : World) (k : Nat) (o : Int) (s' : Wd) : Prop where
  hs : Hs 27 w b g c X s'
  lo : Lo X b g q (lasO la)
  eq : hangL node (la.take m) (uw (node + 2)) s = hangL node ((la.take m).drop k) o s'
  rm : Rm s' (2 * (m - k))
  ow : isW o
set_option maxHeartbeats 2000000 in
theorem hang_any (b g c q m : Nat) (la : List Lk) (s : Wd) (node : Int) (h8 : la.length = 8) (hla : ∀ l ∈ la, l.Ok) (hm : m ≤ 8) (rms : Rm s 16) (w : World) (h : WdAt 27 w b g c s) (hq : Lo w b g q (lasO la)) :
    Calls Try.prog 49 #[.iface 23 (.pointer (some ⟨b, 0, none⟩)), .slice (some ⟨q, 0, none⟩) m 8, .int .u64 node] w fun e w' => e = .returned (.int .i64 (hangL node (la.take m) (uw (node + 2)) s).1) ∧ Hs 27 w b g c w' (hangL node (la.take m) (uw (node + 2)) s).2 := by
  have mg := meth_get b
  have mp := meth_put b
  have ng := nil_get b
  have np := nil_put b
  have HQL : Hid (q < w.heap.size) := hid hq.lt
  have HH : Hid (Hg w b g c q node la m s w 0 (uw (node + 2)) s) := hid ⟨Hs.start h, hq, rfl, rms.le (by omega), uw_isW _⟩
  clear h hq
  go_enter Try.func49, Try.ntmps49
  go_wp2_with fail
  go_loopw [7, 16] (fun ov kv wr => ∃ (k : Nat) (o : Int) (s' : Wd), k ≤ m ∧ kv = .int .i64 (k : Int) ∧ ov = .int .u64 o ∧ Hid (Hg w b g c q node la m s wr k o s')) (fun _ kv _ => m - (intOf kv).toNat)
  case atStart => exact ⟨0, _, s, by omega, rfl, rfl, HH⟩
  case round =>
    obtain ⟨k, o, s', hk, rfl, rfl, HY⟩ := hrel
    clear HH
    by_cases hlt : k < m
    · have hki : (k : Int) < (m : Int) := by omega
      have hk8 : k < 8 := by omega
      have hwk : IntKind.i64.wrap ((k : Int) + 1) = (k : Int) + 1 := by rw [IntKind.wrap_i64]; omega
      have c0 := las_c0 HY.out.lo.at_ h8 hk8
      have c1 := las_c1 HY.out.lo.at_ h8 hk8
      have c2 := las_c2 HY.out.lo.at_ h8 hk8
      obtain ⟨⟨l1, l2, l3⟩, hlk⟩ : ∃ l, lk la k = l := ⟨_, rfl⟩
      have HLK : Hid (Lk.Ok ⟨l1, l2, l3⟩) := hid (hlk ▸ lk_ok hla k)
      have HDR : Hid ((la.take m).drop k = ⟨l1, l2, l3⟩ :: (la.take m).drop (k + 1)) := by
        have hkl : k < (la.take m).length := by rw [List.length_take]; omega
        rw [List.drop_eq_getElem_cons hkl]
        have : (la.take m)[k] = ⟨l1, l2, l3⟩ := by
          rw [List.getElem_take, ← hlk]
          unfold lk
          rw [List.getElem?_eq_getElem (by omega)]
          rfl
        rw [this]
        exact hid rfl
      rw [hlk] at c0 c1 c2
      dsimp only at c0 c1 c2
      obtain ⟨⟨e, s1⟩, eq1⟩ : ∃ r, s'.put o l2 = r := ⟨_, rfl⟩
      have rms1 : Rm s1 1 := (HY.out.rm.le (by omega) : Rm s' 2).put eq1
      have HE1 : Hid (_ = _) := eq1
      have hnw : Hs 27 w b g c (wr.alloc (lkO ⟨l1, l2, l3⟩)) s' ∧ Lo (wr.alloc (lkO ⟨l1, l2, l3⟩)) b g q (lasO la) ∧ Lo (wr.alloc (lkO ⟨l1, l2, l3⟩)) b g wr.heap.size (lkO ⟨l1, l2, l3⟩) := ⟨HY.out.hs.new (keeps_new wr _), HY.out.lo.after HY.out.hs.wd.ltb (keeps_new wr _), Lo.new HY.out.hs.wd _⟩
      have p0 := lk_c0 hnw.2.2.at_
      have p1 := lk_c1 hnw.2.2.at_
      dsimp only [lkO] at p0 p1
      have HN := hid hnw
      clear hnw hlk
      by_cases he : e = 0
      · subst he
        obtain ⟨⟨f, s2⟩, eq2⟩ : ∃ r, s1.put l1 (uw (node + 1)) = r := ⟨_, rfl⟩
        have HE2 : Hid (_ = _) := eq2
        have HRM : Hid (Rm s2 (2 * (m - (k + 1)))) := by
          have hr := HY.out.rm
          have e1 := put_len s' o l2
          rw [eq1] at e1
          have e2 := put_len s1 l1 (uw (node + 1))
          rw [eq2] at e2
          have e1' : s1.L.length = s'.L.length + 1 := e1
          have e2' : s2.L.length = s1.L.length + 1 := e2
          unfold Rm at hr ⊢
          refine hid ?_
          omega
        by_cases hf : f = 0
        · subst hf
          have HEQ : Hid (hangL node (la.take m) (uw (node + 2)) s = hangL node ((la.take m).drop (k + 1)) (uw (o + 1)) s2) := by
            rw [HY.out.eq, HDR.out]
            refine hid ?_
            conv => lhs; unfold hangL
            dsimp only
            rw [eq1]
            dsimp only
            rw [if_neg (by simp), eq2]
            dsimp only
            rw [if_neg (by simp)]
          clear eq1 eq2 HDR
          go_wp2_with fail
          refine (tput_r HE1 HY.out.ow HLK.out.2.1 (rms1.le2 HY.out.rm (by omega)) HN.out.1.wd).mono ?_
          rintro e_ w1 ⟨rfl, h1⟩
          have H1 := hid (And.intro (HN.out.1.trans h1) (And.intro (HN.out.2.1.hs h1) (HN.out.2.2.hs h1)))
          clear HN h1 HE1 c0 c1 c2 p0 p1
          have p0 := lk_c0 H1.out.2.2.at_
          have p1 := lk_c1 H1.out.2.2.at_
          dsimp only at p0 p1
          go_wp2_with fail
          refine (tput_r HE2 HLK.out.1 (uw_isW _) rms1 H1.out.1.wd).mono ?_
          rintro e_ w2 ⟨rfl, h2⟩
          have H2 : Hid (Hg w b g c q node la m s w2 (k + 1) (uw (o + 1)) s2) := hid ⟨H1.out.1.trans h2, H1.out.2.1.hs h2, HEQ.out, HRM.out, uw_isW _⟩
          clear H1 h2 HE2 p0 p1
          go_wp2_with fail
          go_roundw
          case rel => exact ⟨k + 1, uw (o + 1), s2, by omega, by simp, rfl, H2⟩
          case measure => simp [intOf]; omega
        · have HEQ : Hid (hangL node (la.take m) (uw (node + 2)) s = (f, s2)) := by
            rw [HY.out.eq, HDR.out]
            unfold hangL
            dsimp only
            rw [eq1]
            dsimp only
            rw [if_neg (by simp), eq2]
            dsimp only
            rw [if_pos hf]
            exact hid rfl
          clear eq1 eq2 HDR
          go_wp2_with fail
          refine (tput_r HE1 HY.out.ow HLK.out.2.1 (rms1.le2 HY.out.rm (by omega)) HN.out.1.wd).mono ?_
          rintro e_ w1 ⟨rfl, h1⟩
          have H1 := hid (And.intro (HN.out.1.trans h1) (HN.out.2.2.hs h1))
          clear HN h1 HE1 c0 c1 c2 p0 p1
          have p0 := lk_c0 H1.out.2.at_
          have p1 := lk_c1 H1.out.2.at_
          dsimp only at p0 p1
          go_wp2_with fail
          refine (tput_r HE2 HLK.out.1 (uw_isW _) rms1 H1.out.1.wd).mono ?_
          rintro e_ w2 ⟨rfl, h2⟩
          have H2 := hid (H1.out.1.trans h2)
          clear H1 h2 HE2 p0 p1
          go_wp2_with fail
          go_ret
          rw [HEQ.out]
          exact ⟨rfl, H2.out⟩
      · have HEQ : Hid (hangL node (la.take m) (uw (node + 2)) s = (e, s1)) := by
          rw [HY.out.eq, HDR.out]
          unfold hangL
          dsimp only
          rw [eq1]
          dsimp only
          rw [if_pos he]
          exact hid rfl
        clear eq1 HDR
        go_wp2_with fail
        refine (tput_r HE1 HY.out.ow HLK.out.2.1 (rms1.le2 HY.out.rm (by omega)) HN.out.1.wd).mono ?_
        rintro e_ w1 ⟨rfl, h1⟩
        have H1 := hid (HN.out.1.trans h1)
        clear HN h1 HE1 c0 c1 c2 p0 p1
        go_wp2_with fail
        go_ret
        rw [HEQ.out]
        exact ⟨rfl, H1.out⟩
    · obtain rfl : k = m := by omega
      have HEQ : Hid (hangL node (la.take k) (uw (node + 2)) s = (0, s')) := by
        rw [HY.out.eq, List.drop_eq_nil_of_le (by rw [List.length_take]; omega)]
        exact hid rfl
      clear hlt hk
      go_wp2_with fail
      go_ret
      rw [HEQ.out]
      exact ⟨rfl, HY.out.hs⟩
theorem hang_r {b g c q m : Nat} {la : List Lk} {s : Wd} {node e1 : Int} {s1 : Wd} (heq : Hid (hangL node (la.take m) (uw (node + 2)) s = (e1, s1))) (h8 : la.length = 8) (hla : ∀ l ∈ la, l.Ok) (hm : m ≤ 8) (rms : Rm s 16) {w : World} (h : WdAt 27 w b g c s) (hq : Lo w b g q (lasO la)) :
    Calls Try.prog 49 #[.iface 23 (.pointer (some ⟨b, 0, none⟩)), .slice (some ⟨q, 0, none⟩) m 8, .int .u64 node] w fun e w' => e = .returned (.int .i64 e1) ∧ Hs 27 w b g c w' s1 := by
  have q := hang_any b g c q m la s node h8 hla hm rms w h hq
  rw [heq.out] at q
  exact q
end Go.Proofs.Ytifmpiiaebnbiaa
