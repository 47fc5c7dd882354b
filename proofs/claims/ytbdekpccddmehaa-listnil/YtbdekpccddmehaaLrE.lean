
/- The calls of list without a tx (layer 21). No statement of the seat is proved here. -/
import Derived.Test.YtbdekpccddmehaaLrD
namespace Go.Proofs.Ytbdekpccddmehaa
open Go.RowKit

set_option maxHeartbeats 400000 in
theorem insert_nil (r l key : Int) (w : World) : Calls Try.prog 22 #[.nilIface, .int .u64 r, .int .u64 l, .int .u64 key] w fun e w' => e = .returned (.tuple #[.bool false, .int .i64 1]) ∧ Keeps (fun _ => False) w w' := by
  go_enter Try.func22, Try.ntmps22
  go_wp2_with fail
  go_ret2
  exact ⟨rfl, Keeps.refl _ w⟩
set_option maxHeartbeats 400000 in
theorem remove_nil (r l key : Int) (w : World) : Calls Try.prog 27 #[.nilIface, .int .u64 r, .int .u64 l, .int .u64 key] w fun e w' => e = .returned (.tuple #[.bool false, .int .i64 1]) ∧ Keeps (fun _ => False) w w' := by
  go_enter Try.func27, Try.ntmps27
  go_wp2_with fail
  go_ret2
  exact ⟨rfl, Keeps.refl _ w⟩
set_option maxHeartbeats 400000 in
theorem hasc_nil (l key : Int) (w : World) : Calls Try.prog 28 #[.nilIface, .int .u64 l, .int .u64 key] w fun e w' => e = .returned (.tuple #[.bool false, .int .i64 1]) ∧ Keeps (fun _ => False) w w' := by
  go_enter Try.func28, Try.ntmps28
  go_wp2_with fail
  go_ret2
  exact ⟨rfl, Keeps.refl _ w⟩
set_option maxHeartbeats 400000 in
theorem len_nil (l : Int) (w : World) : Calls Try.prog 29 #[.nilIface, .int .u64 l] w fun e w' => e = .returned (.tuple #[.int .u64 0, .int .i64 1]) ∧ Keeps (fun _ => False) w w' := by
  go_enter Try.func29, Try.ntmps29
  go_wp2_with fail
  go_ret2
  exact ⟨rfl, Keeps.refl _ w⟩
set_option maxHeartbeats 400000 in
theorem above_nil (l key : Int) (w : World) : Calls Try.prog 30 #[.nilIface, .int .u64 l, .int .u64 key] w fun e w' => e = .returned (.tuple #[.int .u64 0, .bool false, .int .i64 1]) ∧ Keeps (fun _ => False) w w' := by
  go_enter Try.func30, Try.ntmps30
  go_wp2_with fail
  go_ret3
  exact ⟨rfl, keeps_new w _⟩
set_option maxHeartbeats 400000 in
theorem first_nil (l : Int) (w : World) : Calls Try.prog 31 #[.nilIface, .int .u64 l] w fun e w' => e = .returned (.tuple #[.int .u64 0, .bool false, .int .i64 1]) ∧ Keeps (fun _ => False) w w' := by
  go_enter Try.func31, Try.ntmps31
  go_wp2_with fail
  go_ret3
  exact ⟨rfl, Keeps.refl _ w⟩
set_option maxHeartbeats 400000 in
theorem keys_nil (l : Int) (w : World) : Calls Try.prog 18 #[.nilIface, .int .u64 l] w fun e w' => e = .returned (.tuple #[.slice none 0 0, .int .i64 1]) ∧ Keeps (fun _ => False) w w' := by
  go_enter Try.func18, Try.ntmps18
  go_wp2_with fail
  go_ret2
  exact ⟨rfl, Keeps.refl _ w⟩
set_option maxHeartbeats 400000 in
theorem clear_nil (r l : Int) (w : World) : Calls Try.prog 32 #[.nilIface, .int .u64 r, .int .u64 l] w fun e w' => e = .returned (.tuple #[.int .u64 0, .int .i64 1]) ∧ Keeps (fun _ => False) w w' := by
  go_enter Try.func32, Try.ntmps32
  go_wp2_with fail
  go_ret2
  exact ⟨rfl, Keeps.refl _ w⟩
set_option maxHeartbeats 400000 in
theorem drop_nil (r l : Int) (w : World) : Calls Try.prog 20 #[.nilIface, .int .u64 r, .int .u64 l] w fun e w' => e = .returned (.int .i64 1) ∧ Keeps (fun _ => False) w w' := by
  go_enter Try.func20, Try.ntmps20
  go_wp2_with fail
  go_ret
  exact ⟨rfl, Keeps.refl _ w⟩
set_option maxHeartbeats 400000 in
theorem new_nil (r : Int) (w : World) : Calls Try.prog 19 #[.nilIface, .int .u64 r] w fun e w' => e = .returned (.tuple #[.int .u64 0, .int .i64 1]) ∧ Keeps (fun _ => False) w w' := by
  go_enter Try.func19, Try.ntmps19
  go_wp2_with fail
  go_ret2
  exact ⟨rfl, Keeps.refl _ w⟩
structure Dn (w X : World) (x : Int) (h : Bool) (v : Value) (e : Int) : Prop where
  k : Keeps (fun _ => False) w X
  a9 : RpAt X (w.heap.size + 2) x h v e
  a8 : RpAt X (w.heap.size + 1) 0 false (.slice none 0 0) 0
section
variable {w X X' : World} {x e : Int} {h : Bool} {v : Value}
theorem Dn.acc (d : Dn w X x h v e) (k : Keeps (fun _ => False) X X') : Dn w X' x h v e := ⟨d.k.trans k, d.a9.keeps k (fun f => f), d.a8.keeps k (fun f => f)⟩
theorem Dn.own {i : Nat} {u : Value} (d : Dn w X x h v e) {x' e' : Int} {h' : Bool} {v' : Value} (a : RpAt (X.setCell ⟨w.heap.size + 2, i, none⟩ u) (w.heap.size + 2) x' h' v' e') : Dn w (X.setCell ⟨w.heap.size + 2, i, none⟩ u) x' h' v' e' := by
  have k := keeps_cell X (w.heap.size + 2) i u
  exact ⟨d.k.step k (fun i hi e => by omega), a, d.a8.keeps k (by omega)⟩
theorem Dn.fin (d : Dn w X x h v e) (x' e' : Int) (h' : Bool) (v' : Value) : RpAt ((((X.setCell ⟨w.heap.size + 1, 0, none⟩ (.int .u64 x')).setCell ⟨w.heap.size + 1, 1, none⟩ (.bool h')).setCell ⟨w.heap.size + 1, 2, none⟩ v').setCell ⟨w.heap.size + 1, 3, none⟩ (.int .i64 e')) (w.heap.size + 1) x' h' v' e' ∧ Keeps (fun _ => False) w ((((X.setCell ⟨w.heap.size + 1, 0, none⟩ (.int .u64 x')).setCell ⟨w.heap.size + 1, 1, none⟩ (.bool h')).setCell ⟨w.heap.size + 1, 2, none⟩ v').setCell ⟨w.heap.size + 1, 3, none⟩ (.int .i64 e')) := by
  have k := (((keeps_cell X (w.heap.size + 1) 0 (.int .u64 x')).trans (keeps_cell _ (w.heap.size + 1) 1 (.bool h'))).trans (keeps_cell _ (w.heap.size + 1) 2 v')).trans (keeps_cell _ (w.heap.size + 1) 3 (.int .i64 e'))
  exact ⟨(((d.a8.set0 x').set1 h').set2 v').set3 e', d.k.step k (fun i hi e => by omega)⟩
end
theorem dn_start (w : World) (o : Obj) : Dn w (((w.alloc o).alloc (.cells #[.int .u64 0, .bool false, .slice none 0 0, .int .i64 0] 38)).alloc (.cells #[.int .u64 0, .bool false, .slice none 0 0, .int .i64 0] 38)) 0 false (.slice none 0 0) 0 := by
  have e1 : ∀ (x : World) (o : Obj), (x.alloc o).heap.size = x.heap.size + 1 := fun x o => by simp
  have q2 := alloc_block ((w.alloc o).alloc (.cells #[.int .u64 0, .bool false, .slice none 0 0, .int .i64 0] 38)) (.cells #[.int .u64 0, .bool false, .slice none 0 0, .int .i64 0] 38)
  rw [e1, e1] at q2
  exact ⟨((keeps_new w o).alloc _).alloc _, q2, dq_start8 w o⟩
def erN (kind : Int) : Int := if 1 ≤ kind ∧ kind ≤ 9 then 1 else 0
set_option maxRecDepth 100000 in
set_option maxHeartbeats 4000000 in
theorem do_nil (r l kind on key : Int) (w : World) :
    Calls Try.prog 11 #[.nilIface, .int .u64 r, .int .u64 l, .agg #[.int .i64 kind, .int .i64 on, .int .u64 key]] w fun e w' => e = .returned (.agg #[.int .u64 0, .bool false, .slice none 0 0, .int .i64 (erN kind)]) ∧ Keeps (fun _ => False) w w' := by
  have HH := hid (dn_start w (.cells #[.int .i64 kind, .int .i64 on, .int .u64 key] 33))
  by_cases hk1 : kind = 1
  · subst hk1
    rw [show erN 1 = 1 from rfl]
    go_enter Try.func11, Try.ntmps11
    go_wp2_with fail
    have hh := HH.out
    refine (insert_nil r l key _).mono ?_
    rintro e_ w1 ⟨rfl, k1⟩
    replace HH := hid (hh.acc k1)
    clear hh k1
    have hq := HH.out.a9
    have q0 := hq.c0
    have q1 := hq.c1
    have q2 := hq.c2
    have q3 := hq.c3
    have qf0 := hq.fr 0
    have qf1 := hq.fr 1
    have qf2 := hq.fr 2
    have qf3 := hq.fr 3
    clear hq
    have hp := HH.out.a8
    have p0 := hp.c0
    have p1 := hp.c1
    have p2 := hp.c2
    have p3 := hp.c3
    have pf0 := hp.fr 0
    have pf1 := hp.fr 1
    have pf2 := hp.fr 2
    have pf3 := hp.fr 3
    clear hp
    go_wp2_with fail
    have hd := ((HH.out.own (HH.out.a9.set1 false)).own ((HH.out.a9.set1 false).set3 1))
    have hf := hd.fin 0 1 false (.slice none 0 0)
    refine bodyPost_ret (rp_ret rfl _ _ (w.heap.size + 1) 0 1 false (.slice none 0 0) hf.1 rfl) rfl ?_
    exact ⟨by rfl, hf.2⟩
  · skip
    by_cases hk2 : kind = 2
    · subst hk2
      rw [show erN 2 = 1 from rfl]
      go_enter Try.func11, Try.ntmps11
      go_wp2_with fail
      have hh := HH.out
      refine (remove_nil r l key _).mono ?_
      rintro e_ w1 ⟨rfl, k1⟩
      replace HH := hid (hh.acc k1)
      clear hh k1
      have hq := HH.out.a9
      have q0 := hq.c0
      have q1 := hq.c1
      have q2 := hq.c2
      have q3 := hq.c3
      have qf0 := hq.fr 0
      have qf1 := hq.fr 1
      have qf2 := hq.fr 2
      have qf3 := hq.fr 3
      clear hq
      have hp := HH.out.a8
      have p0 := hp.c0
      have p1 := hp.c1
      have p2 := hp.c2
      have p3 := hp.c3
      have pf0 := hp.fr 0
      have pf1 := hp.fr 1
      have pf2 := hp.fr 2
      have pf3 := hp.fr 3
      clear hp
      go_wp2_with fail
      have hd := ((HH.out.own (HH.out.a9.set1 false)).own ((HH.out.a9.set1 false).set3 1))
      have hf := hd.fin 0 1 false (.slice none 0 0)
      refine bodyPost_ret (rp_ret rfl _ _ (w.heap.size + 1) 0 1 false (.slice none 0 0) hf.1 rfl) rfl ?_
      exact ⟨by rfl, hf.2⟩
    · skip
      by_cases hk3 : kind = 3
      · subst hk3
        rw [show erN 3 = 1 from rfl]
        go_enter Try.func11, Try.ntmps11
        go_wp2_with fail
        have hh := HH.out
        refine (hasc_nil l key _).mono ?_
        rintro e_ w1 ⟨rfl, k1⟩
        replace HH := hid (hh.acc k1)
        clear hh k1
        have hq := HH.out.a9
        have q0 := hq.c0
        have q1 := hq.c1
        have q2 := hq.c2
        have q3 := hq.c3
        have qf0 := hq.fr 0
        have qf1 := hq.fr 1
        have qf2 := hq.fr 2
        have qf3 := hq.fr 3
        clear hq
        have hp := HH.out.a8
        have p0 := hp.c0
        have p1 := hp.c1
        have p2 := hp.c2
        have p3 := hp.c3
        have pf0 := hp.fr 0
        have pf1 := hp.fr 1
        have pf2 := hp.fr 2
        have pf3 := hp.fr 3
        clear hp
        go_wp2_with fail
        have hd := ((HH.out.own (HH.out.a9.set1 false)).own ((HH.out.a9.set1 false).set3 1))
        have hf := hd.fin 0 1 false (.slice none 0 0)
        refine bodyPost_ret (rp_ret rfl _ _ (w.heap.size + 1) 0 1 false (.slice none 0 0) hf.1 rfl) rfl ?_
        exact ⟨by rfl, hf.2⟩
      · skip
        by_cases hk4 : kind = 4
        · subst hk4
          rw [show erN 4 = 1 from rfl]
          go_enter Try.func11, Try.ntmps11
          go_wp2_with fail
          have hh := HH.out
          refine (len_nil l _).mono ?_
          rintro e_ w1 ⟨rfl, k1⟩
          replace HH := hid (hh.acc k1)
          clear hh k1
          have hq := HH.out.a9
          have q0 := hq.c0
          have q1 := hq.c1
          have q2 := hq.c2
          have q3 := hq.c3
          have qf0 := hq.fr 0
          have qf1 := hq.fr 1
          have qf2 := hq.fr 2
          have qf3 := hq.fr 3
          clear hq
          have hp := HH.out.a8
          have p0 := hp.c0
          have p1 := hp.c1
          have p2 := hp.c2
          have p3 := hp.c3
          have pf0 := hp.fr 0
          have pf1 := hp.fr 1
          have pf2 := hp.fr 2
          have pf3 := hp.fr 3
          clear hp
          go_wp2_with fail
          have hd := ((HH.out.own (HH.out.a9.set0 0)).own ((HH.out.a9.set0 0).set3 1))
          have hf := hd.fin 0 1 false (.slice none 0 0)
          refine bodyPost_ret (rp_ret rfl _ _ (w.heap.size + 1) 0 1 false (.slice none 0 0) hf.1 rfl) rfl ?_
          exact ⟨by rfl, hf.2⟩
        · skip
          by_cases hk5 : kind = 5
          · subst hk5
            rw [show erN 5 = 1 from rfl]
            go_enter Try.func11, Try.ntmps11
            go_wp2_with fail
            have hh := HH.out
            refine (above_nil l key _).mono ?_
            rintro e_ w1 ⟨rfl, k1⟩
            replace HH := hid (hh.acc k1)
            clear hh k1
            have hq := HH.out.a9
            have q0 := hq.c0
            have q1 := hq.c1
            have q2 := hq.c2
            have q3 := hq.c3
            have qf0 := hq.fr 0
            have qf1 := hq.fr 1
            have qf2 := hq.fr 2
            have qf3 := hq.fr 3
            clear hq
            have hp := HH.out.a8
            have p0 := hp.c0
            have p1 := hp.c1
            have p2 := hp.c2
            have p3 := hp.c3
            have pf0 := hp.fr 0
            have pf1 := hp.fr 1
            have pf2 := hp.fr 2
            have pf3 := hp.fr 3
            clear hp
            go_wp2_with fail
            have hd := (((HH.out.own (HH.out.a9.set0 0)).own ((HH.out.a9.set0 0).set1 false)).own (((HH.out.a9.set0 0).set1 false).set3 1))
            have hf := hd.fin 0 1 false (.slice none 0 0)
            refine bodyPost_ret (rp_ret rfl _ _ (w.heap.size + 1) 0 1 false (.slice none 0 0) hf.1 rfl) rfl ?_
            exact ⟨by rfl, hf.2⟩
          · skip
            by_cases hk6 : kind = 6
            · subst hk6
              rw [show erN 6 = 1 from rfl]
              go_enter Try.func11, Try.ntmps11
              go_wp2_with fail
              have hh := HH.out
              refine (first_nil l _).mono ?_
              rintro e_ w1 ⟨rfl, k1⟩
              replace HH := hid (hh.acc k1)
              clear hh k1
              have hq := HH.out.a9
              have q0 := hq.c0
              have q1 := hq.c1
              have q2 := hq.c2
              have q3 := hq.c3
              have qf0 := hq.fr 0
              have qf1 := hq.fr 1
              have qf2 := hq.fr 2
              have qf3 := hq.fr 3
              clear hq
              have hp := HH.out.a8
              have p0 := hp.c0
              have p1 := hp.c1
              have p2 := hp.c2
              have p3 := hp.c3
              have pf0 := hp.fr 0
              have pf1 := hp.fr 1
              have pf2 := hp.fr 2
              have pf3 := hp.fr 3
              clear hp
              go_wp2_with fail
              have hd := (((HH.out.own (HH.out.a9.set0 0)).own ((HH.out.a9.set0 0).set1 false)).own (((HH.out.a9.set0 0).set1 false).set3 1))
              have hf := hd.fin 0 1 false (.slice none 0 0)
              refine bodyPost_ret (rp_ret rfl _ _ (w.heap.size + 1) 0 1 false (.slice none 0 0) hf.1 rfl) rfl ?_
              exact ⟨by rfl, hf.2⟩
            · skip
              by_cases hk7 : kind = 7
              · subst hk7
                rw [show erN 7 = 1 from rfl]
                go_enter Try.func11, Try.ntmps11
                go_wp2_with fail
                have hh := HH.out
                refine (keys_nil l _).mono ?_
                rintro e_ w1 ⟨rfl, k1⟩
                replace HH := hid (hh.acc k1)
                clear hh k1
                have hq := HH.out.a9
                have q0 := hq.c0
                have q1 := hq.c1
                have q2 := hq.c2
                have q3 := hq.c3
                have qf0 := hq.fr 0
                have qf1 := hq.fr 1
                have qf2 := hq.fr 2
                have qf3 := hq.fr 3
                clear hq
                have hp := HH.out.a8
                have p0 := hp.c0
                have p1 := hp.c1
                have p2 := hp.c2
                have p3 := hp.c3
                have pf0 := hp.fr 0
                have pf1 := hp.fr 1
                have pf2 := hp.fr 2
                have pf3 := hp.fr 3
                clear hp
                go_wp2_with fail
                have hd := ((HH.out.own (HH.out.a9.set2 (.slice none 0 0))).own ((HH.out.a9.set2 (.slice none 0 0)).set3 1))
                have hf := hd.fin 0 1 false (.slice none 0 0)
                refine bodyPost_ret (rp_ret rfl _ _ (w.heap.size + 1) 0 1 false (.slice none 0 0) hf.1 rfl) rfl ?_
                exact ⟨by rfl, hf.2⟩
              · skip
                by_cases hk8 : kind = 8
                · subst hk8
                  rw [show erN 8 = 1 from rfl]
                  go_enter Try.func11, Try.ntmps11
                  go_wp2_with fail
                  have hh := HH.out
                  refine (clear_nil r l _).mono ?_
                  rintro e_ w1 ⟨rfl, k1⟩
                  replace HH := hid (hh.acc k1)
                  clear hh k1
                  have hq := HH.out.a9
                  have q0 := hq.c0
                  have q1 := hq.c1
                  have q2 := hq.c2
                  have q3 := hq.c3
                  have qf0 := hq.fr 0
                  have qf1 := hq.fr 1
                  have qf2 := hq.fr 2
                  have qf3 := hq.fr 3
                  clear hq
                  have hp := HH.out.a8
                  have p0 := hp.c0
                  have p1 := hp.c1
                  have p2 := hp.c2
                  have p3 := hp.c3
                  have pf0 := hp.fr 0
                  have pf1 := hp.fr 1
                  have pf2 := hp.fr 2
                  have pf3 := hp.fr 3
                  clear hp
                  go_wp2_with fail
                  have hd := ((HH.out.own (HH.out.a9.set0 0)).own ((HH.out.a9.set0 0).set3 1))
                  have hf := hd.fin 0 1 false (.slice none 0 0)
                  refine bodyPost_ret (rp_ret rfl _ _ (w.heap.size + 1) 0 1 false (.slice none 0 0) hf.1 rfl) rfl ?_
                  exact ⟨by rfl, hf.2⟩
                · skip
                  by_cases hk9 : kind = 9
                  · subst hk9
                    rw [show erN 9 = 1 from rfl]
                    go_enter Try.func11, Try.ntmps11
                    go_wp2_with fail
                    have hh := HH.out
                    refine (drop_nil r l _).mono ?_
                    rintro e_ w1 ⟨rfl, k1⟩
                    replace HH := hid (hh.acc k1)
                    clear hh k1
                    have hq := HH.out.a9
                    have q0 := hq.c0
                    have q1 := hq.c1
                    have q2 := hq.c2
                    have q3 := hq.c3
                    have qf0 := hq.fr 0
                    have qf1 := hq.fr 1
                    have qf2 := hq.fr 2
                    have qf3 := hq.fr 3
                    clear hq
                    have hp := HH.out.a8
                    have p0 := hp.c0
                    have p1 := hp.c1
                    have p2 := hp.c2
                    have p3 := hp.c3
                    have pf0 := hp.fr 0
                    have pf1 := hp.fr 1
                    have pf2 := hp.fr 2
                    have pf3 := hp.fr 3
                    clear hp
                    go_wp2_with fail
                    have hd := (HH.out.own (HH.out.a9.set3 1))
                    have hf := hd.fin 0 1 false (.slice none 0 0)
                    refine bodyPost_ret (rp_ret rfl _ _ (w.heap.size + 1) 0 1 false (.slice none 0 0) hf.1 rfl) rfl ?_
                    exact ⟨by rfl, hf.2⟩
                  · skip
                    have hs : erN kind = 0 := by unfold erN; rw [if_neg (by omega)]
                    rw [hs]
                    clear hs
                    have hb1 : (kind == 1) = false := by simpa using hk1
                    have hb2 : (kind == 2) = false := by simpa using hk2
                    have hb3 : (kind == 3) = false := by simpa using hk3
                    have hb4 : (kind == 4) = false := by simpa using hk4
                    have hb5 : (kind == 5) = false := by simpa using hk5
                    have hb6 : (kind == 6) = false := by simpa using hk6
                    have hb7 : (kind == 7) = false := by simpa using hk7
                    have hb8 : (kind == 8) = false := by simpa using hk8
                    have hb9 : (kind == 9) = false := by simpa using hk9
                    go_enter Try.func11, Try.ntmps11
                    go_wp2_with fail
                    refine bodyPost_ret (rp_ret rfl _ _ (w.heap.size + 1) 0 0 false (.slice none 0 0) HH.out.a8 rfl) rfl ?_
                    exact ⟨rfl, HH.out.k⟩
end Go.Proofs.Ytbdekpccddmehaa
