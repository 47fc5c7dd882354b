
/- The law's walk over a program: its text, its list. No statement of the seat is proved here. -/
import Derived.Test.YtkihmdbmdpmmmaaGreatDoorAuC
namespace Go.Proofs.YtkihmdbmdpmmmaaGreatDoor
open Go.RowKit Go.Shelf

set_option maxRecDepth 100000 in
set_option maxHeartbeats 4000000 in
theorem text_law (v : Value) (L : List I5) (w : World) (hw : Gp w) (h : InsAt w v L) : Calls Tryz.prog 4 #[v] w fun e w' => e = .returned (.bool true) ∧ Keeps (fun _ => False) w w' := by
  have KN := fun X (kX : Keeps (fun _ => False) w X) => known_any X (hw.keeps kX)
  have k0 := Keeps.refl (fun _ => False) w
  by_cases hl : 400 < L.length
  · obtain ⟨⟨a0, c0, rfl, _⟩, -, -⟩ := h
    have hli : (400 : Int) < L.length := by omega
    have KN0 := KN w k0
    clear KN
    go_enter Tryz.func4, Tryz.ntmps4
    go_wp2_with fail
    refine KN0.mono ?_
    rintro e X ⟨rfl, kX⟩
    go_wp2_with fail
    go_ret
    exact ⟨rfl, kX⟩
  · have hL : L.length ≤ 65536 := by omega
    have hli : ¬ (400 : Int) < L.length := by omega
    have CP := rcopy_any v L (by omega) w h
    have HAT : Hid (∀ X u, Keeps (fun _ => False) w X → InsAt X u L → Calls Tryz.prog 16 #[u] X fun e w' => TxPost L e ∧ Keeps (fun _ => False) X w') := fun X u kX hu => atext_any u L hL X (hw.keeps kX) hu
    have HAL : Hid (∀ X u, Keeps (fun _ => False) w X → InsAt X u L → Calls Tryz.prog 17 #[u] X fun e w' => LsPost L e ∧ Keeps (fun _ => False) X w') := fun X u kX hu => list_any u L hL X (hw.keeps kX) hu
    have HRT : Hid (∀ X, Keeps (fun _ => False) w X → Calls Tryz.prog 18 #[v] X fun e w' => TxPost L e ∧ Keeps (fun _ => False) X w') := fun X kX => rtext_any v L hL X (h.keeps kX)
    have HRL : Hid (∀ X, Keeps (fun _ => False) w X → Calls Tryz.prog 19 #[v] X fun e w' => LsPost L e ∧ Keeps (fun _ => False) X w') := fun X kX => rlist_any v L hL X (h.keeps kX)
    have HKC : Hid (∀ X g cap, Keeps (fun _ => False) w X → L.length + 2 ≤ cap → InsAt X (.slice (some ⟨g, 0, none⟩) (L.length + 2) cap) (L ++ marksC) → Calls Tryz.prog 20 #[.slice (some ⟨g, 0, none⟩) L.length cap, v] X fun e w' => e = .returned (.bool true) ∧ Keeps (fun _ => False) X w') := fun X g cap kX hcap hc => rkept_any v L (by omega) g cap hcap X (h.keeps kX) hc
    have HKN : Hid (∀ X, Keeps (fun _ => False) w X → Calls Tryz.prog 9 #[] X fun e w' => e = .returned (.bool true) ∧ Keeps (fun _ => False) X w') := KN
    clear KN
    obtain ⟨⟨a0, c0, rfl, _⟩, -, -⟩ := h
    go_enter Tryz.func4, Tryz.ntmps4
    go_wp2_with fail
    refine CP.mono ?_
    rintro e w1 ⟨⟨g, cap, rfl, hin, hcap, hg⟩, k1⟩
    have HIN : Hid (InsAt w1 (.slice (some ⟨g, 0, none⟩) (L.length + 2) cap) (L ++ marksC)) := hin
    have AT := HAT.out w1 _ k1 hin.prefix
    clear CP HAT hin
    go_wp2_with fail
    refine AT.mono ?_
    rintro e w2 ⟨h2, k2⟩
    have AL := HAL.out w2 _ (k1.trans k2) (HIN.out.keeps k2).prefix
    clear AT HAL
    cases hall : L.all formedB
    · obtain rfl := h2.2 hall
      clear h2
      go_wp2_with fail
      refine AL.mono ?_
      rintro e w3 ⟨h3, k3⟩
      obtain rfl := h3.2 hall
      have RT := HRT.out w3 ((k1.trans k2).trans k3)
      clear AL h3 HRT
      go_wp2_with fail
      refine RT.mono ?_
      rintro e w4 ⟨h4, k4⟩
      obtain rfl := h4.2 hall
      have RL := HRL.out w4 (((k1.trans k2).trans k3).trans k4)
      clear RT h4 HRL
      go_wp2_with fail
      refine RL.mono ?_
      rintro e w5 ⟨h5, k5⟩
      obtain rfl := h5.2 hall
      have KC := HKC.out w5 g cap ((((k1.trans k2).trans k3).trans k4).trans k5) hcap (HIN.out.keeps (((k2.trans k3).trans k4).trans k5))
      clear RL h5 HKC
      go_wp2_with fail
      refine KC.mono ?_
      rintro e w6 ⟨rfl, k6⟩
      have KN6 := HKN.out w6 (((((k1.trans k2).trans k3).trans k4).trans k5).trans k6)
      clear KC HKN
      go_wp2_with fail
      refine KN6.mono ?_
      rintro e w7 ⟨rfl, k7⟩
      have kk := ((((((k1.trans k2).trans k3).trans k4).trans k5).trans k6).trans k7)
      clear KN6
      go_wp2_with fail
      go_ret
      exact ⟨rfl, kk⟩
    · obtain rfl := h2.1 hall
      clear h2
      go_wp2_with fail
      refine AL.mono ?_
      rintro e w3 ⟨h3, k3⟩
      obtain rfl := h3.1 hall
      have RT := HRT.out w3 ((k1.trans k2).trans k3)
      clear AL h3 HRT
      go_wp2_with fail
      refine RT.mono ?_
      rintro e w4 ⟨h4, k4⟩
      obtain rfl := h4.1 hall
      have RL := HRL.out w4 (((k1.trans k2).trans k3).trans k4)
      clear RT h4 HRL
      go_wp2_with fail
      refine RL.mono ?_
      rintro e w5 ⟨h5, k5⟩
      obtain rfl := h5.1 hall
      have KC := HKC.out w5 g cap ((((k1.trans k2).trans k3).trans k4).trans k5) hcap (HIN.out.keeps (((k2.trans k3).trans k4).trans k5))
      clear RL h5 HKC
      go_wp2_with fail
      refine KC.mono ?_
      rintro e w6 ⟨rfl, k6⟩
      have KN6 := HKN.out w6 (((((k1.trans k2).trans k3).trans k4).trans k5).trans k6)
      clear KC HKN
      go_wp2_with fail
      refine KN6.mono ?_
      rintro e w7 ⟨rfl, k7⟩
      have kk := ((((((k1.trans k2).trans k3).trans k4).trans k5).trans k6).trans k7)
      clear KN6
      go_wp2_with fail
      go_ret
      exact ⟨rfl, kk⟩
end Go.Proofs.YtkihmdbmdpmmmaaGreatDoor
