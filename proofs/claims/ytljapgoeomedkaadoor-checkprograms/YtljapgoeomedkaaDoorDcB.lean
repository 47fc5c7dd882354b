
/- Walks of Plain (package check). No statement of the seat is proved here. -/
import Derived.Test.YtljapgoeomedkaaDoorDcA
namespace Go.Proofs.YtljapgoeomedkaaDoor
open Go.RowKit Go.Shelf

set_option maxRecDepth 100000 in
set_option maxHeartbeats 4000000 in
theorem plain_any (v : Value) (p : List I5) (w : World) (h : InsAt w v p) (hG : Gb w) : Calls Tryd.prog 12 #[v] w (PlPost p w) := by
  have LA := look_any v p w h hG
  have HI : Hid (∀ X, Keeps (fun _ => False) w X → InsAt X v p ∧ Gb X) := fun X k => ⟨h.keeps k, hG.keeps k⟩
  obtain ⟨⟨av, cap, rfl, -⟩, -, -⟩ := h
  clear hG
  go_enter Tryd.func12, Tryd.ntmps12
  go_wp2_with fail
  refine LA.mono ?_
  rintro e w1 ⟨fv, rfl, k1, hok, hno⟩
  have K1 := k1.alloc (.cells (wrV (verd p).1 (verd p).2) 40)
  by_cases hv : (verd p).2 = 0
  · obtain ⟨f, rfl, hf, hF⟩ := hok hv
    obtain ⟨hp, hl⟩ := verd_ok_len hv
    have F1 := hF.keeps ((Keeps.refl (fun _ => False) w1).alloc (.cells (wrV (verd p).1 (verd p).2) 40)) (fun f => f)
    have HV : Hid ((verd p).2 = 0) := hv
    rw [hv] at K1 F1 ⊢
    generalize (verd p).1 = a at *
    unfold wrV at K1 F1 ⊢
    clear hok hno hF LA hv k1 hf
    go_wp2_with fail
    go_loopw [20] (fun m wr => ∃ k : Nat, m = .int .i64 k ∧ k ≤ p.length ∧ Hid ((∀ j, j < k → plainF p j = false) ∧ Keeps (fun _ => False) w wr ∧ Fnd wr f p.length (reachB p))) (fun m _ => p.length - (intOf m).toNat)
    case atStart => exact ⟨0, rfl, Nat.zero_le _, ⟨fun j hj => by omega, K1, F1⟩⟩
    case round =>
      clear K1 F1
      obtain ⟨k, rfl, hk, hh⟩ := hrel
      obtain ⟨hM, hK, hF⟩ := hh.out
      by_cases hlt : k < p.length
      · have hki : (k : Int) < p.length := by omega
        obtain ⟨c0, c1⟩ := hF.cell hlt
        obtain ⟨⟨⟨av', cap', hv, hc⟩, -, -⟩, hGr⟩ := HI.out wr hK
        obtain ⟨n0, n1, -, -⟩ := hGr
        have g0 : 0 < wr.heap.size := World.block_lt_of_cell? _ _ n0
        cases hv
        obtain ⟨pg, po, rfl, d0, -, -, -, -⟩ := hc k hlt
        have h5 : p[k]'hlt = at5 p k := by simp [at5, hlt]
        rw [h5] at d0
        have lp : pg < wr.heap.size := World.block_lt_of_cell? _ _ d0
        have lf := hF.lt
        have hpf : plainF p k = ((decide ((at5 p k).op = 10) || decide ((at5 p k).op = 11)) && (reachB p k false || reachB p k true)) := rfl
        have hyes := fun h2 => plainV_yes HV.out hlt h2 hM
        have hnx := fun h2 => upto_more hM h2
        generalize (at5 p k).op = op at *
        generalize reachB p k false = x at *
        generalize reachB p k true = y at *
        have HX : Hid (Keeps (fun _ => False) w wr ∧ Fnd wr f p.length (reachB p)) := ⟨hK, hF⟩
        have kX := ((Keeps.refl (fun _ => False) wr).alloc (.cells #[.bool x, .bool y] 76))
        have HZ : Hid (Keeps (fun _ => False) w (wr.alloc (.cells #[.bool x, .bool y] 76)) ∧ Fnd (wr.alloc (.cells #[.bool x, .bool y] 76)) f p.length (reachB p)) := ⟨hK.trans kX, hF.keeps kX (fun f => f)⟩
        clear hc h5 hh hM hK hF kX HX
        by_cases ho : op = 10 ∨ op = 11
        · have e1 : (decide (op = 10) || decide (op = 11)) = true := by rcases ho with rfl | rfl <;> rfl
          rw [e1, Bool.true_and] at hpf
          rcases hxy : (x || y) with _ | _
          · rw [hxy] at hpf
            have HQ : Hid (∀ j, j < k + 1 → plainF p j = false) := hnx hpf
            have hx : x = false := by cases x; rfl; cases y <;> simp at hxy
            have hy : y = false := by cases y; rfl; rw [hx] at hxy; simp at hxy
            subst hx hy
            clear hyes hnx hpf hxy e1
            rcases ho with rfl | rfl
            · go_wp2_with fail
              go_roundw
              · exact ⟨k + 1, by simp, by omega, ⟨HQ.out, HZ.out.1, HZ.out.2⟩⟩
              · simp [intOf]; omega
            · go_wp2_with fail
              go_roundw
              · exact ⟨k + 1, by simp, by omega, ⟨HQ.out, HZ.out.1, HZ.out.2⟩⟩
              · simp [intOf]; omega
          · rw [hxy] at hpf
            have hy := hyes hpf
            clear hyes hnx hpf e1
            rcases ho with rfl | rfl
            · rcases x with _ | _ <;> rcases y with _ | _
              · simp at hxy
              · clear hxy
                go_wp2_with fail
                go_ret2
                exact ⟨by rw [hy, HV.out]; rfl, HZ.out.1⟩
              · clear hxy
                go_wp2_with fail
                go_ret2
                exact ⟨by rw [hy, HV.out]; rfl, HZ.out.1⟩
              · clear hxy
                go_wp2_with fail
                go_ret2
                exact ⟨by rw [hy, HV.out]; rfl, HZ.out.1⟩
            · rcases x with _ | _ <;> rcases y with _ | _
              · simp at hxy
              · clear hxy
                go_wp2_with fail
                go_ret2
                exact ⟨by rw [hy, HV.out]; rfl, HZ.out.1⟩
              · clear hxy
                go_wp2_with fail
                go_ret2
                exact ⟨by rw [hy, HV.out]; rfl, HZ.out.1⟩
              · clear hxy
                go_wp2_with fail
                go_ret2
                exact ⟨by rw [hy, HV.out]; rfl, HZ.out.1⟩
        · have o1 : ¬ op = 10 := fun e => ho (.inl e)
          have o2 : ¬ op = 11 := fun e => ho (.inr e)
          have m2 : (op == 10) = false := by simp [o1]
          have m3 : (op == 11) = false := by simp [o2]
          have HQ : Hid (∀ j, j < k + 1 → plainF p j = false) := hnx (by rw [hpf]; simp [o1, o2])
          clear hyes hnx hpf ho
          go_wp2_with fail
          go_roundw
          · exact ⟨k + 1, by simp, by omega, ⟨HQ.out, HZ.out.1, HZ.out.2⟩⟩
          · simp [intOf]; omega
      · have hki : ¬ (k : Int) < p.length := by omega
        obtain rfl : k = p.length := by omega
        have hy := plainV_no HV.out hM
        clear hh hM
        go_wp2_with fail
        go_ret2
        exact ⟨by rw [hy, HV.out]; rfl, hK⟩
  · obtain rfl := hno hv
    have hy := plainV_bad hv
    have hne : ∀ q, PlPost p w (.returned (.tuple #[.bool false, .int .i64 (verd p).2])) ((w1.alloc (.cells (wrV (verd p).1 (verd p).2) 40)).drewN q) := fun q => ⟨by rw [hy], K1.drewN q⟩
    generalize (verd p).2 = b at *
    generalize (verd p).1 = a at *
    unfold wrV at hne ⊢
    have HN : Hid (_) := hne
    clear hok hno LA hne K1 hy
    go_wp2_with fail
    go_quiet (fail)
    go_wp2_with fail
    go_ret2
    exact HN.out _
end Go.Proofs.YtljapgoeomedkaaDoor
