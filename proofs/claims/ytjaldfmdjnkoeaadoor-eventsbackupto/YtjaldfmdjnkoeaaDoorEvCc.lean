
/- EventsBack: the law's walk (package parleylaw13). No statement of the seat is proved here. -/
import Derived.Test.YtjaldfmdjnkoeaaDoorEvT
import Derived.Test.YtjaldfmdjnkoeaaDoorEvCa
import Derived.Test.YtjaldfmdjnkoeaaDoorEvCb
namespace Go.Proofs.YtjaldfmdjnkoeaaDoor
open Go.RowKit Go.Shelf

theorem textE_le : ∀ L : List Ev, (∀ e ∈ L, formedE e = true ∧ e.wf) → (textE L).length ≤ L.length * 121
  | [], _ => by simp [textE]
  | e :: L, h => by
    have h1 := lineL_le (h e (by simp)).2 (h e (by simp)).1
    have h2 := textE_le L (fun x hx => h x (List.mem_cons_of_mem _ hx))
    have e0 : textE (e :: L) = lineL e ++ 10 :: textE L := by simp [textE]
    rw [e0, List.length_append, List.length_cons, List.length_cons]
    omega
set_option maxRecDepth 100000 in
set_option maxHeartbeats 4000000 in
theorem back_law (v : Value) (L : List Ev) (w : World) (hv : EvsAt w v L) (hg : Gv w) (h8 : 8 ≤ w.heap.size) (hlen : L.length ≤ 1048576) :
    Calls Tryd.prog 6 #[v] w fun ex w' => ex = .returned (.bool true) ∧ Keeps (fun _ => False) w w' := by
  have NN : ∀ (n : Int) (W : World), Calls Tryd.prog 29 #[.int .i64 n] W fun e w' => e = .returned (.int .i64 n) ∧ W = w' := fun n W => (num_any n W).mono (fun e w' h => ⟨h.1, h.2.symm⟩)
  have hwf := hv.wf
  have HG : Hid (∀ X, Keeps (fun _ => False) w X → Gv X ∧ 8 ≤ X.heap.size) := fun X k => ⟨hg.keeps k, Nat.le_trans h8 k.size⟩
  have HE : Hid (∀ X, Keeps (fun _ => False) w X → EvsAt X v L) := fun X k => hv.keeps k
  obtain ⟨a, cap, rfl, hcap⟩ := hv.els.shape
  have K0 := known_any w hg h8
  clear hg h8 hv
  have HT : Hid (∀ X, Keeps (fun _ => False) w X → Calls Tryd.prog 25 #[.slice a L.length cap] X fun ex w' => ex = .returned (.tuple #[.string ⟨(textR L).1.toArray⟩, .int .i64 (textR L).2]) ∧ Keeps (fun _ => False) X w') := fun X k => text_any _ L X (HE.out X k) (HG.out X k).1 (HG.out X k).2 (by omega)
  by_cases hall : L.all formedE = true
  · have hf : ∀ e ∈ L, formedE e = true ∧ e.wf := fun e he => ⟨List.all_eq_true.1 hall e he, hwf e he⟩
    have hR : textR L = (textE L, 0) := by unfold textR; rw [if_pos hall]
    have hP := parse_text hf
    have hl := textE_le L hf
    have hPE : parErr (textE L) = 0 := by unfold parErr; rw [hP]; rfl
    rw [hR] at HT
    dsimp only at HT
    have HP : Hid (∀ X, Keeps (fun _ => False) w X → Calls Tryd.prog 30 #[.string ⟨(textE L).toArray⟩] X fun ex w' => ∃ v, ex = .returned (.tuple #[v, .int .i64 (L.length : Int), .int .i64 0]) ∧ OwnR Ev.cl 6 44 w' X.heap.size v L ∧ Keeps (fun _ => False) X w') := fun X k => by
      have := eparse_any (textE L) (by omega) X (HG.out X k).1 (HG.out X k).2
      rw [hP, hPE] at this
      exact this
    clear hR hP hl hPE hf hall hwf
    generalize textE L = tx at *
    go_enter Tryd.func6, Tryd.ntmps6
    go_wp2_with fail
    refine K0.mono ?_
    rintro ex w1 ⟨rfl, k1⟩
    clear K0
    go_wp2_with fail
    refine (HT.out w1 k1).mono ?_
    rintro ex w2 ⟨rfl, k2⟩
    have K2 := k1.trans k2
    go_wp2_with (go_at_call 29; refine (NN _ _).mono ?_; rintro ex w' ⟨rfl, rfl⟩)
    refine (HP.out w2 K2).mono ?_
    rintro ex w3 ⟨pv, rfl, o3, k3⟩
    have K3 := K2.trans k3
    have e3 := o3.els ev_len
    have h3 := (HE.out _ K3).els
    have S1 := rsame_any pv _ L (by omega) w3 e3 h3
    have HS2 : Hid (∀ X, Keeps (fun _ => False) w3 X → Calls Tryd.prog 32 #[pv, .slice a L.length cap] X fun e w' => e = .returned (.bool true) ∧ Keeps (fun _ => False) X w') := fun X k => same_any pv _ L (by omega) X (e3.keeps ev_ne k) (h3.keeps ev_ne k)
    clear o3 e3 h3 HT HP
    go_wp2_with (go_at_call 29; refine (NN _ _).mono ?_; rintro ex w' ⟨rfl, rfl⟩)
    refine S1.mono ?_
    rintro ex w4 ⟨rfl, k4⟩
    go_wp2_with fail
    refine (HS2.out w4 k4).mono ?_
    rintro ex w5 ⟨rfl, k5⟩
    go_wp2_with fail
    go_ret
    exact ⟨rfl, (K3.trans k4).trans k5⟩
  · have hR : textR L = ([], 201) := by unfold textR; rw [if_neg hall]
    rw [hR] at HT
    dsimp only at HT
    clear hwf hall
    go_enter Tryd.func6, Tryd.ntmps6
    go_wp2_with fail
    refine K0.mono ?_
    rintro ex w1 ⟨rfl, k1⟩
    clear K0
    go_wp2_with fail
    refine (HT.out w1 k1).mono ?_
    rintro ex w2 ⟨rfl, k2⟩
    go_wp2_with (go_at_call 29; refine (NN _ _).mono ?_; rintro ex w' ⟨rfl, rfl⟩)
    go_ret
    exact ⟨rfl, k1.trans k2⟩
end Go.Proofs.YtjaldfmdjnkoeaaDoor
