
/- The document's Words, and calls without a tx: nothing (layer 23). No statement of the seat is proved here. -/
import Derived.Test.YtadbplbifjeghaaQwC
import Derived.Test.YtadbplbifjeghaaQvD
namespace Go.Proofs.Ytadbplbifjeghaa
open Go.RowKit

set_option maxRecDepth 100000 in
set_option maxHeartbeats 4000000 in
theorem rwords_any (vw vn : Value) (W ns : List Int) (hWl : W.length ≤ 17592186044416) (hn : ∀ x ∈ ns, 0 ≤ x ∧ x < W.length) (hnl : ns.length ≤ 65536) (w : World) (h : Lies w vw W) (h2 : Lies w vn ns) :
    Calls Try.prog 10 #[vw, vn] w fun e w' => ∃ v, e = .returned v ∧ Wr w' w.heap.size v (ns.map fun n => oat W n.toNat) ∧ Keeps (fun _ => False) w w' := by
  obtain ⟨aw, cw, rfl⟩ := h.form
  obtain ⟨an, cn, rfl⟩ := h2.form
  have H := hid (And.intro h h2)
  have HN := hid hn
  clear h h2 hn
  go_enter Try.func10, Try.ntmps10
  go_wp2_with fail
  go_loopw [5, 6] (fun ov iv wr => ∃ j : Nat, j ≤ ns.length ∧ iv = .int .i64 (j : Int) ∧ Hid (Wr wr w.heap.size ov ((ns.take j).map fun n => oat W n.toNat) ∧ Keeps (fun _ => False) w wr)) (fun _ iv _ => ns.length - (intOf iv).toNat)
  case atStart => exact ⟨0, by omega, rfl, hid ⟨Wr.nil _ _, Keeps.refl _ _⟩⟩
  case round =>
    obtain ⟨j, hj, rfl, hr⟩ := hrel
    obtain ⟨ao, co, hv⟩ := hr.out.1.form
    obtain ⟨m, hm⟩ : ∃ m, ((ns.take j).map fun n => oat W n.toNat).length = m := ⟨_, rfl⟩
    rw [hm] at hv
    subst hv
    have HM := hid hm
    by_cases hlt : j < ns.length
    · have hlti : (j : Int) < ns.length := by omega
      obtain ⟨x, hx⟩ : ∃ x, ns[j]? = some x := ⟨ns[j], by simp [hlt]⟩
      have hxr := HN.out x (List.mem_of_getElem? hx)
      have hox : oat ns j = x := by unfold oat; rw [hx]; rfl
      obtain ⟨g, off, c, e, hc⟩ := (H.out.1.keeps hr.out.2 (fun _ _ _ _ f => f)).some (by omega)
      cases e
      obtain ⟨g2, off2, c2, e, hc2⟩ := (H.out.2.keeps hr.out.2 (fun _ _ _ _ f => f)).some (by omega)
      cases e
      have d1 := hc2 j hlt
      rw [hox] at d1
      have d2 := hc x.toNat (by omega)
      have x0 := hxr.1
      have x1 := hxr.2
      have hnext : (ns.take (j + 1)).map (fun n => oat W n.toNat) = (ns.take j).map (fun n => oat W n.toNat) ++ [oat W x.toNat] := by rw [List.take_add_one, List.map_append, hx]; rfl
      obtain ⟨v', wa, hrun, hwr, hkp⟩ := hr.out.1.push hr.out.2.size (by rw [HM.out]; have : m = j := by rw [← HM.out]; simp; omega
                                                                         omega) (oat W x.toNat)
      have HR : Hid (_ = _) := hrun
      have hkk : Keeps (fun _ => False) w wa := hr.out.2.step hkp (fun i hi e => by omega)
      rw [← hnext] at hwr
      have hml : ((ns.take (j + 1)).map (fun n => oat W n.toNat)).length = m + 1 := by rw [hnext, List.length_append, HM.out]; rfl
      have HX := hid (And.intro hwr hkk)
      obtain ⟨ao', co', hao⟩ := hwr.form
      rw [hml] at hao
      subst hao
      clear hm hlt hx hxr hox hc hc2 hnext hrun hwr hkp hkk hml hr
      go_wp2_with (at_builtin; refine wpList_append_run rfl _ _ 36 rfl rfl rfl HR.out ?_; clear HR)
      go_roundw
      case rel => exact ⟨j + 1, by omega, by simp, hid ⟨HX.out.1, HX.out.2⟩⟩
      case measure => simp [intOf]; omega
    · obtain rfl : j = ns.length := by omega
      clear hm hlt
      go_wp2_with fail
      go_ret
      have q := hr.out.1
      rw [List.take_length] at q
      exact ⟨_, rfl, q, hr.out.2⟩

set_option maxHeartbeats 1000000 in
theorem qnew_nil (r : Int) (w : World) : Calls Try.prog 19 #[.nilIface, .int .u64 r] w fun e w' => e = .returned (.tuple #[.int .u64 0, .int .i64 1]) ∧ w' = w := by
  go_enter Try.func19, Try.ntmps19
  go_wp2_with fail
  go_ret2
  exact ⟨rfl, rfl⟩
set_option maxHeartbeats 1000000 in
theorem qtake_nil (r q : Int) (w : World) : Calls Try.prog 23 #[.nilIface, .int .u64 r, .int .u64 q] w fun e w' => e = .returned (.tuple #[.int .u64 0, .bool false, .int .i64 1]) ∧ w' = w := by
  go_enter Try.func23, Try.ntmps23
  go_wp2_with fail
  go_ret3
  exact ⟨rfl, rfl⟩
set_option maxHeartbeats 1000000 in
theorem qfirst_nil (q : Int) (w : World) : Calls Try.prog 25 #[.nilIface, .int .u64 q] w fun e w' => e = .returned (.tuple #[.int .u64 0, .bool false, .int .i64 1]) ∧ w' = w := by
  go_enter Try.func25, Try.ntmps25
  go_wp2_with fail
  go_ret3
  exact ⟨rfl, rfl⟩
set_option maxHeartbeats 1000000 in
theorem qlen_nil (q : Int) (w : World) : Calls Try.prog 26 #[.nilIface, .int .u64 q] w fun e w' => e = .returned (.tuple #[.int .u64 0, .int .i64 1]) ∧ w' = w := by
  go_enter Try.func26, Try.ntmps26
  go_wp2_with fail
  go_ret2
  exact ⟨rfl, rfl⟩
set_option maxHeartbeats 1000000 in
theorem qwords_nil (q : Int) (w : World) : Calls Try.prog 15 #[.nilIface, .int .u64 q] w fun e w' => e = .returned (.tuple #[.slice none 0 0, .int .i64 1]) ∧ w' = w := by
  go_enter Try.func15, Try.ntmps15
  go_wp2_with fail
  go_ret2
  exact ⟨rfl, rfl⟩
set_option maxHeartbeats 1000000 in
theorem qpush_nil (r q x : Int) (w : World) : Calls Try.prog 21 #[.nilIface, .int .u64 r, .int .u64 q, .int .u64 x] w fun e w' => e = .returned (.int .i64 1) ∧ w' = w := by
  go_enter Try.func21, Try.ntmps21
  go_wp2_with fail
  go_ret
  exact ⟨rfl, rfl⟩
set_option maxHeartbeats 1000000 in
theorem qdrop_nil (r q : Int) (w : World) : Calls Try.prog 17 #[.nilIface, .int .u64 r, .int .u64 q] w fun e w' => e = .returned (.int .i64 1) ∧ w' = w := by
  go_enter Try.func17, Try.ntmps17
  go_wp2_with fail
  go_ret
  exact ⟨rfl, rfl⟩
set_option maxRecDepth 100000 in
set_option maxHeartbeats 4000000 in
theorem nothing_any (w : World) : Calls Try.prog 12 #[] w fun e w' => e = .returned (.bool true) ∧ w' = w := by
  go_enter Try.func12, Try.ntmps12
  go_wp2_with (first | (go_at_call 19; refine (qnew_nil _ _).mono ?_; rintro e_ w_ ⟨rfl, hw_⟩; subst w_) | (go_at_call 23; refine (qtake_nil _ _ _).mono ?_; rintro e_ w_ ⟨rfl, hw_⟩; subst w_) | (go_at_call 25; refine (qfirst_nil _ _).mono ?_; rintro e_ w_ ⟨rfl, hw_⟩; subst w_) | (go_at_call 26; refine (qlen_nil _ _).mono ?_; rintro e_ w_ ⟨rfl, hw_⟩; subst w_) | (go_at_call 15; refine (qwords_nil _ _).mono ?_; rintro e_ w_ ⟨rfl, hw_⟩; subst w_) | (go_at_call 21; refine (qpush_nil _ _ _ _).mono ?_; rintro e_ w_ ⟨rfl, hw_⟩; subst w_) | (go_at_call 17; refine (qdrop_nil _ _ _).mono ?_; rintro e_ w_ ⟨rfl, hw_⟩; subst w_) | (go_at_call 16; refine (num_any _ _).mono ?_; rintro e_ w_ ⟨rfl, hw_⟩; subst w_))
  go_ret
  exact ⟨rfl, rfl⟩
end Go.Proofs.Ytadbplbifjeghaa
