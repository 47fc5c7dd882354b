
/- The walk of change (layer 25). No statement of the seat is proved here. -/
import Derived.Test.YtiacennkjjfifabTmF
namespace Go.Proofs.Ytiacennkjjfifab
open Go.RowKit

/-- A function that has a body is entered. -/
noncomputable def entB (f : Nat) : Bool := match Try.prog.funcs[f]? with
  | some fn => !(fn.name == "runtime.NumGoroutine") && fn.body.isSome
  | none => false
theorem enters {f : Nat} (h : entB f = true) (args : Array Value) (w : World) : (callFunc f args).run Try.prog w = .ok (.enter f args) w := by
  unfold entB at h
  cases hf : Try.prog.funcs[f]? with
  | none => rw [hf] at h; simp at h
  | some fn =>
    rw [hf] at h
    simp only [Bool.and_eq_true, Bool.not_eq_true'] at h
    obtain ⟨h1, h2⟩ := h
    have h3 : ¬ fn.body = none := fun e => by rw [e] at h2; simp at h2
    have h4 : ¬ fn.name = "runtime.NumGoroutine" := by simpa using h1
    simp [callFunc, hf, h4, h3]
/-- What becomes of a value: a closure with one word. -/
structure Bf (fn q : Nat) (v : Int) (bf : Int → Int) : Prop where
  ent : ∀ (args : Array Value) (X : World), (callFunc fn args).run Try.prog X = .ok (.enter fn args) X
  call : ∀ (k : Int) (X : World), X.cell? ⟨q, 0, none⟩ = some (.int .u64 v) → Calls Try.prog fn #[.int .u64 k, .pointer (some ⟨q, 0, none⟩)] X fun e w' => e = .returned (.int .u64 (bf k)) ∧ w' = X
  wd : ∀ k, isW k → isW (bf k)
/-- While a key's value changes: the tx, the closure's word, the box of where the way ended. -/
structure Cg (w : World) (b g c q qe : Nat) (v : Int) (e : En) (X : World) (s : Wd) : Prop where
  hs : Hs 65 w b g c X s
  cl : Lo X b g q (.cells #[.int .u64 v] 22 (0, 0))
  bx : Lo X b g qe (.cells (enC e) 50 (0, 0))
theorem Cg.acc {w X X' : World} {b g c q qe : Nat} {v : Int} {e : En} {s s' : Wd} (h : Cg w b g c q qe v e X s) (k : Hs 65 X b g c X' s') : Cg w b g c q qe v e X' s' := ⟨h.hs.trans k, h.cl.hs k, h.bx.hs k⟩
theorem Cg.drew {w X : World} {b g c q qe : Nat} {v : Int} {e : En} {s : Wd} (h : Cg w b g c q qe v e X s) : Cg w b g c q qe v e X.drew s := ⟨h.hs.drew, h.cl.like rfl, h.bx.like rfl⟩
theorem Cg.cv {w X : World} {b g c q qe : Nat} {v : Int} {e : En} {s : Wd} (h : Cg w b g c q qe v e X s) : X.cell? ⟨q, 0, none⟩ = some (.int .u64 v) := by rw [cell_of_block h.cl.at_]; rfl
/-- The cells of the box and of the closure. -/
def SE (W : World) (q qe : Nat) (v : Int) (e : En) : Prop := W.cell? ⟨q, 0, none⟩ = some (.int .u64 v) ∧ W.cell? ⟨qe, 0, none⟩ = some (.int .u64 e.cell) ∧ W.cell? ⟨qe, 1, none⟩ = some (.int .u64 e.word) ∧ W.cell? ⟨qe, 2, none⟩ = some (.int .i64 e.d) ∧ W.cell? ⟨qe, 3, none⟩ = some (.int .i64 e.what) ∧ W.cell? ⟨qe, 4, none⟩ = some (.int .u64 e.leaf) ∧ W.cell? ⟨qe, 5, none⟩ = some (.int .u64 e.key)
theorem Cg.se {w X : World} {b g c q qe : Nat} {v : Int} {e : En} {s : Wd} (h : Cg w b g c q qe v e X s) : SE X q qe v e := by
  have hb := h.bx.at_
  refine ⟨h.cv, ?_, ?_, ?_, ?_, ?_, ?_⟩ <;> (rw [cell_of_block hb]; rfl)
set_option maxRecDepth 100000 in
set_option maxHeartbeats 8000000 in
theorem change_any {fn q : Nat} {v : Int} {bf : Int → Int} (EB : Bf fn q v bf) {b g c : Nat} {s s1 : Wd} {room at_ k old e1 : Int} {was : Bool} (heq : Hid (chgF bf room at_ k s = (((old, was), e1), s1))) (hr : isW room) (hk : isW k) (rms : Rm s 350) {w : World} (h : WdAt 65 w b g c s) (hq : Lo w b g q (.cells #[.int .u64 v] 22 (0, 0))) :
    Calls Try.prog 17 #[.iface 62 (.pointer (some ⟨b, 0, none⟩)), .int .u64 room, .int .u64 at_, .int .u64 k, .func (.func fn) #[] #[.pointer (some ⟨q, 0, none⟩)]] w fun e w' => e = .returned (.tuple #[.int .u64 old, .bool was, .int .i64 e1]) ∧ Hs 65 w b g c w' s1 := by
  have mg := meth_get b
  have ng := nil_get b
  have mp := meth_put b
  have np := nil_put b
  have hent := EB.ent
  obtain ⟨E0, f, s2, h1, h2, h3⟩ := bnd_step heq.out
  have ok2 := reachF_ok h1 h.ok
  have HW := hid h1
  have H2 := hid h2
  have H3 := hid h3
  have R1 := hid (rms.le (j := 17) (by omega))
  have R2 : Hid (Rm s2 333) := hid (Rm.reachF (j := 333) rms h1 h.ok)
  have HOK := hid ok2
  have HQ := hid hq
  have HWD := hid h
  clear h1 h2 h3 ok2 rms h heq hq
  go_enter Try.func17, Try.ntmps17
  go_wp2_with fail
  refine (reach_any HW R1.out HWD.out).mono ?_
  rintro e_ w2 ⟨rfl, k2⟩
  have HC : Hid (Cg w b g c q w2.heap.size v E0 (w2.alloc (.cells (enC E0) 50)) s2) := hid ⟨k2.new (keeps_new w2 _), (HQ.out.hs k2).after k2.wd.ltb (keeps_new w2 _), Lo.new k2.wd _⟩
  clear k2 HW R1 HQ HWD
  unfold En.v
  dsimp only [enC] at HC ⊢
  have hse := HC.out.se
  obtain ⟨cv, c0, c1, c2, c3, c4, c5⟩ := hse
  generalize hqe : w2.heap.size = qe at *
  by_cases hf : f = 0
  rotate_left
  · obtain ⟨rfl, rfl, hrr⟩ := H3.out hf
    obtain ⟨rfl, rfl⟩ := Prod.mk.inj hrr
    clear H2 H3 hrr
    go_wp2_with fail
    go_ret3
    exact ⟨rfl, by first | exact HC.out.hs | (rw [hqe]; exact HC.out.hs)⟩
  subst hf
  have h4 := H2.out rfl
  clear H2 H3
  by_cases hw0 : E0.what = 0
  · rw [if_pos hw0] at h4
    obtain ⟨u1, f2, s3, h5, h6, h7⟩ := bnd_step h4
    have HG := hid h5
    have H6 := hid h6
    have H7 := hid h7
    have hwb : (E0.what == 0) = true := by simpa using hw0
    clear h4 h5 h6 h7 hw0
    go_wp2_with fail
    generalize w2.alloc (.cells #[.int .u64 E0.cell, .int .u64 E0.word, .int .i64 E0.d, .int .i64 E0.what, .int .u64 E0.leaf, .int .u64 E0.key] 50) = X at *
    have hS0 : X.drew.cell? ⟨q, 0, none⟩ = some (.int .u64 v) ∧ X.drew.cell? ⟨qe, 0, none⟩ = some (.int .u64 E0.cell) := ⟨HC.out.drew.cv, HC.out.drew.se.2.1⟩
    go_region_held3 (fun W : World => W.cell? ⟨q, 0, none⟩ = some (.int .u64 v) ∧ W.cell? ⟨qe, 0, none⟩ = some (.int .u64 E0.cell)) (first | assumption | exact hS0 | go_keep) (first
      | (go_at_call 33; refine (hang_any HG hr HOK.out.1.cell hk (EB.wd 0 zero_isW) (R2.out.le (by omega)) HC.out.drew.hs.wd).mono ?_; rintro e w3 ⟨rfl, k3⟩; have hS3 : w3.cell? ⟨q, 0, none⟩ = some (.int .u64 v) ∧ w3.cell? ⟨qe, 0, none⟩ = some (.int .u64 E0.cell) := ⟨(HC.out.drew.acc k3).cv, (HC.out.drew.acc k3).se.2.1⟩)
      | (refine (EB.call 0 _ HC.out.drew.cv).mono ?_; rintro e w' ⟨rfl, rfl⟩))
    all_goals
      have HL := hid (HC.out.hs.drew.trans k3)
      have hres : old = 0 ∧ was = false ∧ e1 = f2 ∧ s1 = s3 := by
        by_cases hf2 : f2 = 0
        · obtain ⟨hrr, rfl, rfl⟩ := rtn_eq (H6.out hf2)
          obtain ⟨rfl, rfl⟩ := Prod.mk.inj hrr
          exact ⟨rfl, rfl, hf2.symm, rfl⟩
        · obtain ⟨rfl, rfl, hrr⟩ := H7.out hf2
          obtain ⟨rfl, rfl⟩ := Prod.mk.inj hrr
          exact ⟨rfl, rfl, rfl, rfl⟩
      obtain ⟨rfl, rfl, rfl, rfl⟩ := hres
      clear k3 hS3 hS0 H6 H7 HG
      go_wp2_with fail
      go_ret3
      exact ⟨rfl, HL.out⟩
  · rw [if_neg hw0] at h4
    have hwb : (E0.what == 0) = false := by simpa using hw0
    by_cases hkk : E0.key = k
    rotate_left
    · rw [if_pos hkk] at h4
      obtain ⟨u1, f2, s3, h5, h6, h7⟩ := bnd_step h4
      have HG := hid h5
      have H6 := hid h6
      have H7 := hid h7
      have hkb : (E0.key != k) = true := by simpa using hkk
      clear h4 h5 h6 h7 hw0 hkk
      go_wp2_with fail
      generalize w2.alloc (.cells #[.int .u64 E0.cell, .int .u64 E0.word, .int .i64 E0.d, .int .i64 E0.what, .int .u64 E0.leaf, .int .u64 E0.key] 50) = X at *
      have hSE := HC.out.drew.se
      unfold SE at hSE
      go_region_held3 (fun W : World => W.cell? ⟨q, 0, none⟩ = some (.int .u64 v) ∧ W.cell? ⟨qe, 0, none⟩ = some (.int .u64 E0.cell) ∧ W.cell? ⟨qe, 1, none⟩ = some (.int .u64 E0.word) ∧ W.cell? ⟨qe, 2, none⟩ = some (.int .i64 E0.d) ∧ W.cell? ⟨qe, 3, none⟩ = some (.int .i64 E0.what) ∧ W.cell? ⟨qe, 4, none⟩ = some (.int .u64 E0.leaf) ∧ W.cell? ⟨qe, 5, none⟩ = some (.int .u64 E0.key)) (first | assumption | exact hSE | exact hS3 | go_keep) (first
        | (go_at_call 34; refine (part_any HG hr hk (EB.wd 0 zero_isW) HOK.out.1 (R2.out.le (by omega)) HC.out.drew.hs.wd).mono ?_; rintro e w3 ⟨rfl, k3⟩; have hS3 := (HC.out.drew.acc k3).se)
        | (refine (EB.call 0 _ HC.out.drew.cv).mono ?_; rintro e w' ⟨rfl, rfl⟩))
      all_goals
        have HL := hid (HC.out.hs.drew.trans k3)
        have hres : old = 0 ∧ was = false ∧ e1 = f2 ∧ s1 = s3 := by
          by_cases hf2 : f2 = 0
          · obtain ⟨hrr, rfl, rfl⟩ := rtn_eq (H6.out hf2)
            obtain ⟨rfl, rfl⟩ := Prod.mk.inj hrr
            exact ⟨rfl, rfl, hf2.symm, rfl⟩
          · obtain ⟨rfl, rfl, hrr⟩ := H7.out hf2
            obtain ⟨rfl, rfl⟩ := Prod.mk.inj hrr
            exact ⟨rfl, rfl, rfl, rfl⟩
        obtain ⟨rfl, rfl, rfl, rfl⟩ := hres
        clear k3 hS3 H6 H7 HG
        go_wp2_with fail
        go_ret3
        exact ⟨rfl, HL.out⟩
    · rw [if_neg (fun z => z hkk)] at h4
      obtain ⟨x, f2, s3, h5, h6, h7⟩ := bnd_step h4
      have hxw : isW x := get_isW h5 HOK.out.2
      have HG := hid h5
      have H6 := hid h6
      have H7 := hid h7
      have R3 : Hid (Rm s3 332) := hid (R2.out.get h5)
      have hkb : (E0.key != k) = false := by simpa using hkk
      clear h4 h5 h6 h7 hw0 hkk
      go_wp2_with fail
      refine (tget_r HG (uw_isW _) (R2.out.le (by omega)) HC.out.hs.wd).mono ?_
      rintro e_ w3 ⟨rfl, k3⟩
      have HD := hid (HC.out.acc k3)
      clear k3 HG HC cv c0 c1 c2 c3 c4 c5
      by_cases hf2 : f2 = 0
      rotate_left
      · obtain ⟨rfl, rfl, hrr⟩ := H7.out hf2
        obtain ⟨rfl, rfl⟩ := Prod.mk.inj hrr
        clear H6 H7 hrr
        go_wp2_with fail
        go_ret3
        exact ⟨rfl, HD.out.hs⟩
      subst hf2
      obtain ⟨u1, f3, s4, h1, h6, h7⟩ := bnd_step (H6.out rfl)
      have h1' : s3.put (uw (E0.leaf + 1)) (bf x) = (f3, s4) := by
        unfold putU at h1
        simp only [Prod.mk.injEq] at h1
        exact Prod.ext h1.1.2 h1.2
      have HU := hid h1'
      clear H6 H7
      have H6 := hid h6
      have H7 := hid h7
      clear h1 h1' h6 h7
      have hS0 : w3.drew.cell? ⟨q, 0, none⟩ = some (.int .u64 v) ∧ w3.drew.cell? ⟨qe, 4, none⟩ = some (.int .u64 E0.leaf) := ⟨HD.out.drew.cv, HD.out.drew.se.2.2.2.2.2.1⟩
      go_wp2_with fail
      go_region_held3 (fun W : World => W.cell? ⟨q, 0, none⟩ = some (.int .u64 v) ∧ W.cell? ⟨qe, 4, none⟩ = some (.int .u64 E0.leaf)) (first | assumption | exact hS0 | go_keep) (first
        | (go_at_call 67; refine (tput_r HU (uw_isW _) (EB.wd x hxw) (R3.out.le (by omega)) HD.out.drew.hs.wd).mono ?_; rintro e w4 ⟨rfl, k4⟩; have hS4 : w4.cell? ⟨q, 0, none⟩ = some (.int .u64 v) ∧ w4.cell? ⟨qe, 4, none⟩ = some (.int .u64 E0.leaf) := ⟨(HD.out.drew.acc k4).cv, (HD.out.drew.acc k4).se.2.2.2.2.2.1⟩)
        | (refine (EB.call x _ HD.out.drew.cv).mono ?_; rintro e w' ⟨rfl, rfl⟩))
      all_goals
        have HL := hid (HD.out.hs.drew.trans k4)
        clear k4 hS4 hS0
        by_cases hf3 : f3 = 0
        · obtain ⟨hrr, rfl, rfl⟩ := rtn_eq (H6.out hf3)
          obtain ⟨rfl, rfl⟩ := Prod.mk.inj hrr
          subst hf3
          clear H6 H7 hrr
          go_wp2_with fail
          go_ret3
          exact ⟨rfl, HL.out⟩
        · obtain ⟨rfl, rfl, hrr⟩ := H7.out hf3
          obtain ⟨rfl, rfl⟩ := Prod.mk.inj hrr
          clear H6 H7 hrr
          go_wp2_with fail
          go_ret3
          exact ⟨rfl, HL.out⟩
theorem put_cl (q : Nat) (v : Int) (hv : isW v) : Bf 18 q v (fun _ => v) := ⟨enters (by kernel_rfl), fun k X h => by
  go_enter Try.func18, Try.ntmps18
  go_wp2_with fail
  go_ret
  exact ⟨rfl, rfl⟩, fun _ _ => hv⟩
theorem add_cl (q : Nat) (v : Int) : Bf 22 q v (fun o => uw (o + v)) := ⟨enters (by kernel_rfl), fun k X h => by
  go_enter Try.func22, Try.ntmps22
  go_wp2_with fail
  go_ret
  exact ⟨rfl, rfl⟩, fun _ _ => uw_isW _⟩
set_option maxHeartbeats 1000000 in
theorem put_any {b g c : Nat} {s s1 : Wd} {room at_ k v old e1 : Int} {was : Bool} (heq : Hid (tputF room at_ k v s = (((old, was), e1), s1))) (hr : isW room) (hk : isW k) (hv : isW v) (rms : Rm s 350) {w : World} (h : WdAt 65 w b g c s) :
    Calls Try.prog 5 #[.iface 62 (.pointer (some ⟨b, 0, none⟩)), .int .u64 room, .int .u64 at_, .int .u64 k, .int .u64 v] w fun e w' => e = .returned (.tuple #[.int .u64 old, .bool was, .int .i64 e1]) ∧ Hs 65 w b g c w' s1 := by
  have HS := hid ((Hs.start h).new (keeps_new w (.cells #[.int .u64 v] 22)))
  have HQ := hid (Lo.new h (.cells #[.int .u64 v] 22))
  have HR := hid rms
  clear h rms
  go_enter Try.func5, Try.ntmps5
  go_wp2_with fail
  refine (change_any (put_cl w.heap.size v hv) heq hr hk HR.out HS.out.wd HQ.out).mono ?_
  rintro e_ w2 ⟨rfl, k2⟩
  have HL := hid (HS.out.trans k2)
  clear k2
  go_wp2_with fail
  go_ret3
  exact ⟨rfl, HL.out⟩
end Go.Proofs.Ytiacennkjjfifab
