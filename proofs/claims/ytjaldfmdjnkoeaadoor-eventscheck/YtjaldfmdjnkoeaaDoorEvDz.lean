/-
  No statement of the seat is proved here. (Several texts in one: EvDa, EvDi.)
-/
import Derived.Test.YtjaldfmdjnkoeaaDoorEvBc
import Derived.Test.YtjaldfmdjnkoeaaDoorEvM
import Derived.Deep.QuietTactic
import Derived.BigQuiet

/- The attempts of a history, each by itself from its Begin on (pure). No statement of the seat is proved here. -/
namespace Go.Proofs.YtjaldfmdjnkoeaaDoor

/-- An event noted as the document does. -/
def noteR (t : Ty) (at_ : Int) (e : Ev) : Ty := ⟨t.th, t.fi, at_, if e.kd = 4 then e.wd else t.sn, if endB e.kd then e.kd else t.how, if e.kd = 2 ∧ e.own = false then t.rd + 1 else t.rd, if e.kd = 3 then t.wr + 1 else t.wr⟩
/-- An attempt from a place on. -/
def tryG (t : Ty) : List Ev → Nat → Ty
  | [], _ => t
  | e :: h, k => if e.th ≠ t.th then tryG t h (k + 1) else if endB e.kd then noteR t k e else tryG (noteR t k e) h (k + 1)
def newT (e : Ev) (k : Nat) : Ty := ⟨e.th, k, k, e.wd, 0, 0, 0⟩
def begs : List Ev → Nat → List Ty
  | [], _ => []
  | e :: h, k => if e.kd = 1 then tryG (newT e k) h (k + 1) :: begs h (k + 1) else begs h (k + 1)
def shutT (g : List Ev) (k : Nat) (t : Ty) : Ty := if t.how = 0 then tryG t g k else t
theorem note_eq {t : Ty} {k : Int} {e : Ev} (h : e.kd ≠ 1) : noteR t k e = noteT t k e := by
  unfold noteR noteT; simp [h]
/-- Open attempts and threads that are inside one another. -/
structure TOpen (S : St) (T : Tr) : Prop where
  o8 : T.o.length = 8
  own : ∀ (i : Nat) (t : Ty), T.l[i]? = some t → t.how = 0 → 0 ≤ t.th ∧ t.th < 8 ∧ T.at t.th.toNat = i + 1
  th : ∀ (i : Nat), T.at i ≠ 0 → ∃ t, T.l[T.at i - 1]? = some t ∧ t.th = (i : Int) ∧ t.how = 0
theorem topen0 : TOpen st0 tr0 := ⟨rfl, fun i t h => by simp [tr0] at h, fun i hi => by
    exfalso; apply hi
    simp only [Tr.at, tr0, List.getElem?_replicate]
    split <;> rfl⟩
theorem shut_map {l : List Ty} {e : Ev} {g : List Ev} {k : Nat} (h : ∀ t ∈ l, t.how = 0 → e.th ≠ t.th) : l.map (shutT (e :: g) k) = l.map (shutT g (k + 1)) := by
  apply List.map_congr_left
  intro t ht
  unfold shutT
  split
  · rename_i h0
    rw [tryG, if_pos (h t ht h0)]
  · rfl
theorem open_step {S : St} {T : Tr} {k : Nat} {e : Ev} (hO : TOpen S T) (hC : TCnt S T k) (he : errE S e = 0) (g : List Ev) :
    TOpen (nextS S e) (stepT T k e) ∧ (stepT T k e).l.map (shutT g (k + 1)) ++ begs g (k + 1) = T.l.map (shutT (e :: g) k) ++ begs (e :: g) k := by
  obtain ⟨hf, ht⟩ := err_turn he
  obtain ⟨f0, f1, f2, f3⟩ := formed_in hf
  have hil : e.th.toNat < T.o.length := by rw [hO.o8]; omega
  have eth : ((e.th.toNat : Nat) : Int) = e.th := by omega
  unfold stepT openT
  by_cases h1 : e.kd = 1
  · have hs1 : (S.sd e.th.toNat).st = 1 := by
      unfold turnN at ht
      by_cases q1 : (S.sd e.th.toNat).st = 1
      · exact q1
      · by_cases q2 : (S.sd e.th.toNat).st = 2
        · simp [q2, h1] at ht
        · by_cases q3 : (S.sd e.th.toNat).st = 3
          · simp [q3, h1] at ht
          · simp [q1, q2, q3] at ht
    have hat := hC.out e.th.toNat (by omega) (by omega) (by omega)
    rw [if_pos h1]
    have hA : (⟨T.l ++ [⟨e.th, k, 0, 0, 0, 0, 0⟩], T.o.set e.th.toNat (T.l.length + 1)⟩ : Tr).at e.th.toNat = T.l.length + 1 := by rw [at_set, if_pos ⟨rfl, hil⟩]
    unfold markT
    simp only [hA]
    rw [if_neg (by omega)]
    have hg : ((T.l ++ [(⟨e.th, k, 0, 0, 0, 0, 0⟩ : Ty)])[T.l.length + 1 - 1]?).getD ty0 = ⟨e.th, k, 0, 0, 0, 0, 0⟩ := by
      rw [List.getElem?_append_right (by omega)]; simp
    have hnt : noteT (⟨e.th, k, 0, 0, 0, 0, 0⟩ : Ty) k e = newT e k := by
      simp [noteT, newT, endB, h1]
    rw [hg, hnt]
    have hset : (T.l ++ [(⟨e.th, k, 0, 0, 0, 0, 0⟩ : Ty)]).set (T.l.length + 1 - 1) (newT e k) = T.l ++ [newT e k] := by
      rw [Nat.add_sub_cancel, List.set_append_right _ _ (Nat.le_refl _)]; simp
    rw [hset]
    have hnone : ∀ (i : Nat) (t : Ty), T.l[i]? = some t → t.how = 0 → e.th ≠ t.th := fun i t hi h0 hth => by
      have := hO.own i t hi h0
      rw [← hth, hat] at this; omega
    simp only [show (newT e k).how = 0 from rfl, if_true]
    refine ⟨⟨by simpa using hO.o8, fun i t hi h0 => ?_, fun i hi => ?_⟩, ?_⟩
    · rcases Nat.lt_or_ge i T.l.length with hlt | hge
      · rw [List.getElem?_append_left hlt] at hi
        have hne := hnone i t hi h0
        obtain ⟨a1, a2, a3⟩ := hO.own i t hi h0
        refine ⟨a1, a2, ?_⟩
        rw [at_set, if_neg (fun q => hne (by omega))]
        exact a3
      · rw [List.getElem?_append_right hge] at hi
        have hi0 : i - T.l.length = 0 := by
          rcases Nat.eq_zero_or_pos (i - T.l.length) with q | q
          · exact q
          · rw [List.getElem?_eq_none (by simp only [List.length_singleton]; omega)] at hi; cases hi
        rw [hi0] at hi
        simp at hi
        subst hi
        refine ⟨f0, f1, ?_⟩
        show (⟨_, T.o.set e.th.toNat (T.l.length + 1)⟩ : Tr).at e.th.toNat = i + 1
        rw [at_set, if_pos ⟨rfl, hil⟩]; omega
    · rw [at_set] at hi ⊢
      by_cases hie : i = e.th.toNat ∧ e.th.toNat < T.o.length
      · rw [if_pos hie]
        exact ⟨newT e k, by simp, by show e.th = (i : Int); omega, rfl⟩
      · rw [if_neg hie] at hi ⊢
        obtain ⟨t, q1, q2, q3⟩ := hO.th i hi
        exact ⟨t, by show (T.l ++ _)[_]? = _; rw [List.getElem?_append_left (List.getElem?_eq_some_iff.1 q1).1]; exact q1, q2, q3⟩
    · rw [shut_map (fun t ht h0 => by obtain ⟨i, hi⟩ := List.getElem?_of_mem ht; exact hnone i t hi h0)]
      rw [begs, if_pos h1]
      simp [shutT, newT]
  · rw [if_neg h1, begs, if_neg h1]
    unfold markT
    by_cases h0 : T.at e.th.toNat = 0
    · rw [if_pos h0]
      refine ⟨⟨hO.o8, hO.own, hO.th⟩, ?_⟩
      rw [shut_map (fun t ht hw hth => by
        obtain ⟨i, hi⟩ := List.getElem?_of_mem ht
        have := hO.own i t hi hw
        rw [← hth, h0] at this; omega)]
    · rw [if_neg h0]
      obtain ⟨t, htt, hth, hw⟩ := hO.th _ h0
      have hg : (T.l[T.at e.th.toNat - 1]?).getD ty0 = t := by rw [htt]; rfl
      simp only [hg]
      obtain ⟨hlt, hte⟩ := List.getElem?_eq_some_iff.1 htt
      have hte' : t.th = e.th := by omega
      have hnth : (noteT t k e).th = e.th := hte'
      have oth : ∀ (i : Nat) (u : Ty), i ≠ T.at e.th.toNat - 1 → T.l[i]? = some u → u.how = 0 → e.th ≠ u.th := fun i u hi hu hh hc => by
        have := hO.own i u hu hh
        rw [← hc] at this; omega
      have hmap : (T.l.set (T.at e.th.toNat - 1) (noteT t k e)).map (shutT g (k + 1)) = T.l.map (shutT (e :: g) k) := by
        apply List.ext_getElem?
        intro i
        rw [List.getElem?_map, List.getElem?_map, List.getElem?_set]
        by_cases hi : T.at e.th.toNat - 1 = i
        · rw [if_pos hi, if_pos (by omega), ← hi, htt]
          simp only [Option.map_some, Option.some.injEq]
          have e1 : shutT (e :: g) k t = tryG t (e :: g) k := by unfold shutT; rw [if_pos hw]
          rw [e1, tryG, if_neg (by rw [hte']; simp), note_eq h1]
          unfold shutT
          by_cases hE : endB e.kd = true
          · rw [if_pos hE, if_neg]
            simp [noteT, hE]; omega
          · rw [if_neg hE, if_pos]
            simp [noteT, hE, hw]
        · rw [if_neg hi]
          cases hu : T.l[i]? with
          | none => rfl
          | some u =>
            simp only [Option.map_some, Option.some.injEq]
            unfold shutT
            split
            · rename_i hh
              rw [tryG, if_pos (oth i u (fun q => hi q.symm) hu hh)]
            · rfl
      by_cases hn : (noteT t k e).how = 0
      · simp only [if_pos hn]
        refine ⟨⟨hO.o8, fun i u hi hh => ?_, fun i hi => ?_⟩, by rw [hmap]⟩
        · by_cases hie : T.at e.th.toNat - 1 = i
          · subst hie
            rw [List.getElem?_set_self hlt] at hi
            cases hi
            refine ⟨by omega, by omega, ?_⟩
            rw [hnth]; show T.at e.th.toNat = _; omega
          · rw [List.getElem?_set_ne hie] at hi
            exact hO.own i u hi hh
        · by_cases hie : i = e.th.toNat
          · subst hie
            exact ⟨noteT t k e, List.getElem?_set_self hlt, by rw [hnth]; omega, hn⟩
          · obtain ⟨u, q1, q2, q3⟩ := hO.th i hi
            refine ⟨u, ?_, q2, q3⟩
            show (T.l.set _ _)[T.at i - 1]? = _
            rw [List.getElem?_set_ne]
            · exact q1
            · intro hc
              rw [← hc, htt] at q1
              cases q1; omega
      · simp only [if_neg hn]
        refine ⟨⟨by simpa using hO.o8, fun i u hi hh => ?_, fun i hi => ?_⟩, by rw [hmap]⟩
        · by_cases hie : T.at e.th.toNat - 1 = i
          · subst hie
            rw [List.getElem?_set_self hlt] at hi
            cases hi
            exact absurd hh hn
          · rw [List.getElem?_set_ne hie] at hi
            obtain ⟨a1, a2, a3⟩ := hO.own i u hi hh
            refine ⟨a1, a2, ?_⟩
            rw [at_set, if_neg]
            · exact a3
            · rintro ⟨q, -⟩
              rw [q] at a3; omega
        · rw [at_set] at hi ⊢
          by_cases hie : i = e.th.toNat ∧ e.th.toNat < T.o.length
          · rw [if_pos hie] at hi; exact absurd rfl hi
          · rw [if_neg hie] at hi ⊢
            obtain ⟨u, q1, q2, q3⟩ := hO.th i hi
            refine ⟨u, ?_, q2, q3⟩
            show (T.l.set _ _)[T.at i - 1]? = _
            rw [List.getElem?_set_ne]
            · exact q1
            · intro hc
              rw [← hc, htt] at q1
              cases q1
              exact hie ⟨by omega, hil⟩
theorem tries_each : ∀ (g : List Ev) (S : St) (T : Tr) (k : Nat), TOpen S T → TCnt S T k → TInv T k → (chk S g k).2 = 0 → (triesF T g k).l = T.l.map (shutT g k) ++ begs g k
  | [], S, T, k, _, _, _, _ => by
    have : T.l.map (shutT [] k) = T.l := by
      conv => rhs; rw [← List.map_id T.l]
      apply List.map_congr_left
      intro t _
      unfold shutT tryG
      split <;> rfl
    rw [triesF, this, begs, List.append_nil]
  | e :: g, S, T, k, hO, hC, hI, hz => by
    rw [chk] at hz
    by_cases he : errE S e = 0
    · rw [if_pos he] at hz
      obtain ⟨o1, o2⟩ := open_step hO hC he g
      rw [triesF, tries_each g (nextS S e) (stepT T k e) (k + 1) o1 (cnt_step hC hI he) (mark_inv (open_inv hI e).1 e).1 hz, o2]
    · rw [if_neg he] at hz; exact absurd hz he
/-- The attempts of a history that can be, each by itself. -/
theorem tries_begs {L : List Ev} (hz : (checkL L).2 = 0) : triesL L = begs L 0 := by
  have := tries_each L st0 tr0 0 topen0 cnt0 tr0_inv hz
  unfold triesL
  rw [this]; rfl
end Go.Proofs.YtjaldfmdjnkoeaaDoor


/- Lists of numbers; the commits of a history, its threads (pure); walks of Of, Threads, Same of both (packages events, parleyref13). No statement of the seat is proved here. -/
namespace Go.Proofs.YtjaldfmdjnkoeaaDoor
open Go.RowKit Go.Shelf

@[reducible] def Ci (x : Int) : List Value := [.int .i64 x]
theorem ci_len (x : Int) : (Ci x).length = 1 := rfl
theorem ci_ne (x : Int) : Ci x ≠ [] := by simp
theorem ci_one (x : Int) : ∀ u ∈ Ci x, u.oneCell' = true := by simp [Value.oneCell']
theorem info_int : (Tryd.prog.info? 3).map (fun i => (i.zero, i.size, i.bytes)) = some (some (.int .i64 0), 1, 8) := by kernel_rfl
/-- The places of the commits. -/
def commF : List Ev → Nat → List Int
  | [], _ => []
  | e :: h, k => if e.kd = 6 then (k : Int) :: commF h (k + 1) else commF h (k + 1)
theorem commF_len : ∀ (L : List Ev) (k : Nat), (commF L k).length ≤ L.length
  | [], _ => by simp [commF]
  | e :: h, k => by
    have := commF_len h (k + 1)
    unfold commF
    split <;> simp <;> omega
theorem filter_step {L : List Ev} {p : Ev → Bool} {k : Nat} (hk : k < L.length) : (L.take (k + 1)).filter p = (L.take k).filter p ++ if p (L[k]) = true then [L[k]] else [] := by
  rw [List.take_succ_eq_append_getElem hk, List.filter_append]
  congr 1
  cases h : p (L[k]) <;> simp [List.filter, h]
set_option maxRecDepth 100000 in
set_option maxHeartbeats 4000000 in
theorem of_any (v : Value) (L : List Ev) (t : Int) (w : World) (hv : EvsAt w v L) : Calls Tryd.prog 12 #[v, .int .i64 t] w fun ex w' => ∃ u, ex = .returned u ∧ OwnR Ev.cl 6 44 w' w.heap.size u (L.filter fun e => decide (e.th = t)) ∧ Keeps (fun _ => False) w w' := by
  have hbig := hv.big
  have HV : Hid (∀ X, Keeps (fun _ => False) w X → EvsAt X v L) := fun X k => hv.keeps k
  obtain ⟨a, cap, rfl, hcap⟩ := hv.els.shape
  clear hv
  go_enter Tryd.func12, Tryd.ntmps12
  go_wp2_with fail
  go_loopw [5, 10] (fun x u wr => ∃ (k : Nat) (acc : List Ev), u = .int .i64 k ∧ k ≤ L.length ∧ Hid (OwnR Ev.cl 6 44 wr w.heap.size x acc ∧ acc = (L.take k).filter (fun e => decide (e.th = t)) ∧ acc.length ≤ k ∧ Keeps (fun _ => False) w wr)) (fun _ u _ => L.length - (intOf u).toNat)
  case atStart => exact ⟨0, [], rfl, Nat.zero_le _, OwnR.nil _ _ _ _, by simp, by simp, Keeps.refl _ _⟩
  case round =>
    obtain ⟨k, acc, rfl, hk, hh⟩ := hrel
    obtain ⟨oa, hF, hal, kr⟩ := hh.out
    by_cases hlt : k < L.length
    · have hki : (k : Int) < L.length := by omega
      have hk0 : (0 : Int) ≤ k := by omega
      obtain ⟨g, off, rfl, x0, x1, x2, x3, x4, x5⟩ := (HV.out wr kr).at k hlt
      have hst := filter_step (L := L) (p := fun e => decide (e.th = t)) hlt
      rw [← hF] at hst
      generalize hev : L[k]'hlt = e at *
      clear hev
      obtain ⟨th, kd, ad, wd, own, er⟩ := e
      dsimp only at x0 x1 x2 x3 x4 x5 hst
      by_cases hth : th = t
      · subst hth
        rw [if_pos (decide_eq_true rfl)] at hst
        have kB : Keeps (fun _ => False) wr (wr.alloc (.cells #[.int .i64 th, .int .i64 kd, .int .u64 ad, .int .u64 wd, .bool own, .int .i64 er] 44)) := (Keeps.refl (fun _ => False) wr).alloc _
        have oB := oa.keeps kB (fun _ _ f => f)
        obtain ⟨v', w3, r1, r2, r3⟩ := oB.push (P := Tryd.prog) (ts := 22) (ty := 22) ev_len ev_one (by decide) Tryd.underlying22 info_ev rfl (by decide) ⟨th, kd, ad, wd, own, er⟩ (cs := #[.int .i64 th, .int .i64 kd, .int .u64 ad, .int .u64 wd, .bool own, .int .i64 er]) rfl (by omega)
        rw [show ((wr.alloc (.cells #[.int .i64 th, .int .i64 kd, .int .u64 ad, .int .u64 wd, .bool own, .int .i64 er] 44))).heap.size = wr.heap.size + 1 by simp] at r1
        have HR : Hid (_ = _) := r1
        have KR := OwnR.kept r3 (kr.trans kB) oB
        have FN : Hid (OwnR Ev.cl 6 44 w3 w.heap.size v' (acc ++ [⟨th, kd, ad, wd, own, er⟩]) ∧ acc ++ [⟨th, kd, ad, wd, own, er⟩] = (L.take (k + 1)).filter (fun e => decide (e.th = th)) ∧ (acc ++ [(⟨th, kd, ad, wd, own, er⟩ : Ev)]).length ≤ k + 1 ∧ Keeps (fun _ => False) w w3) := ⟨r2, hst.symm, by simp; omega, KR⟩
        obtain ⟨ua, uc, hu⟩ := oa.form
        subst hu
        clear hh hF oa oB r1 r2 r3 KR hst
        go_wp2_with (at_builtin; refine wpList_append_run rfl _ _ 22 rfl rfl rfl HR.out ?_; clear HR)
        go_roundw
        · exact ⟨k + 1, acc ++ [⟨th, kd, ad, wd, own, er⟩], by simp, by omega, FN⟩
        · simp [intOf]; omega
      · rw [if_neg (by simpa using hth)] at hst
        have hb1 : (th == t) = false := by simpa using hth
        have kB : Keeps (fun _ => False) wr (wr.alloc (.cells #[.int .i64 th, .int .i64 kd, .int .u64 ad, .int .u64 wd, .bool own, .int .i64 er] 44)) := (Keeps.refl (fun _ => False) wr).alloc _
        have FN : Hid (OwnR Ev.cl 6 44 (wr.alloc (.cells #[.int .i64 th, .int .i64 kd, .int .u64 ad, .int .u64 wd, .bool own, .int .i64 er] 44)) w.heap.size u5 acc ∧ acc = (L.take (k + 1)).filter (fun e => decide (e.th = t)) ∧ acc.length ≤ k + 1 ∧ Keeps (fun _ => False) w (wr.alloc (.cells #[.int .i64 th, .int .i64 kd, .int .u64 ad, .int .u64 wd, .bool own, .int .i64 er] 44))) := ⟨oa.keeps kB (fun _ _ f => f), by rw [hst]; simp, by omega, kr.trans kB⟩
        clear hh hF oa hst
        go_wp2_with fail
        go_roundw
        · exact ⟨k + 1, acc, by simp, by omega, FN⟩
        · simp [intOf]; omega
    · obtain rfl : k = L.length := by omega
      rw [List.take_length] at hF
      have FN : Hid (OwnR Ev.cl 6 44 wr w.heap.size u5 (L.filter fun e => decide (e.th = t)) ∧ Keeps (fun _ => False) w wr) := ⟨by rw [← hF]; exact oa, kr⟩
      clear hh hF oa
      go_wp2_with fail
      go_ret
      exact ⟨_, rfl, FN.out.1, FN.out.2⟩
set_option maxRecDepth 100000 in
set_option maxHeartbeats 4000000 in
theorem rof_any (v : Value) (L : List Ev) (t : Int) (w : World) (hv : EvsAt w v L) : Calls Tryd.prog 15 #[v, .int .i64 t] w fun ex w' => ∃ u, ex = .returned u ∧ OwnR Ev.cl 6 44 w' w.heap.size u (L.filter fun e => decide (e.th = t)) ∧ Keeps (fun _ => False) w w' := by
  have hbig := hv.big
  have HV : Hid (∀ X, Keeps (fun _ => False) w X → EvsAt X v L) := fun X k => hv.keeps k
  obtain ⟨a, cap, rfl, hcap⟩ := hv.els.shape
  clear hv
  go_enter Tryd.func15, Tryd.ntmps15
  go_wp2_with fail
  go_loopw [5, 6] (fun x u wr => ∃ (k : Nat) (acc : List Ev), u = .int .i64 k ∧ k ≤ L.length ∧ Hid (OwnR Ev.cl 6 44 wr w.heap.size x acc ∧ acc = (L.take k).filter (fun e => decide (e.th = t)) ∧ acc.length ≤ k ∧ Keeps (fun _ => False) w wr)) (fun _ u _ => L.length - (intOf u).toNat)
  case atStart => exact ⟨0, [], rfl, Nat.zero_le _, OwnR.nil _ _ _ _, by simp, by simp, Keeps.refl _ _⟩
  case round =>
    obtain ⟨k, acc, rfl, hk, hh⟩ := hrel
    obtain ⟨oa, hF, hal, kr⟩ := hh.out
    by_cases hlt : k < L.length
    · have hki : (k : Int) < L.length := by omega
      have hk0 : (0 : Int) ≤ k := by omega
      obtain ⟨g, off, rfl, x0, x1, x2, x3, x4, x5⟩ := (HV.out wr kr).at k hlt
      have hst := filter_step (L := L) (p := fun e => decide (e.th = t)) hlt
      rw [← hF] at hst
      generalize hev : L[k]'hlt = e at *
      clear hev
      obtain ⟨th, kd, ad, wd, own, er⟩ := e
      dsimp only at x0 x1 x2 x3 x4 x5 hst
      by_cases hth : th = t
      · subst hth
        rw [if_pos (decide_eq_true rfl)] at hst
        have kB : Keeps (fun _ => False) wr wr := Keeps.refl (fun _ => False) wr
        have oB := oa.keeps kB (fun _ _ f => f)
        obtain ⟨v', w3, r1, r2, r3⟩ := oB.push (P := Tryd.prog) (ts := 22) (ty := 22) ev_len ev_one (by decide) Tryd.underlying22 info_ev rfl (by decide) ⟨th, kd, ad, wd, own, er⟩ (cs := #[.int .i64 th, .int .i64 kd, .int .u64 ad, .int .u64 wd, .bool own, .int .i64 er]) rfl (by omega)
        have _hn := hlt
        have HR : Hid (_ = _) := r1
        have KR := OwnR.kept r3 (kr.trans kB) oB
        have FN : Hid (OwnR Ev.cl 6 44 w3 w.heap.size v' (acc ++ [⟨th, kd, ad, wd, own, er⟩]) ∧ acc ++ [⟨th, kd, ad, wd, own, er⟩] = (L.take (k + 1)).filter (fun e => decide (e.th = th)) ∧ (acc ++ [(⟨th, kd, ad, wd, own, er⟩ : Ev)]).length ≤ k + 1 ∧ Keeps (fun _ => False) w w3) := ⟨r2, hst.symm, by simp; omega, KR⟩
        obtain ⟨ua, uc, hu⟩ := oa.form
        subst hu
        clear hh hF oa oB r1 r2 r3 KR hst
        go_wp2_with (at_builtin; refine wpList_append_run rfl _ _ 22 rfl rfl rfl HR.out ?_; clear HR)
        go_roundw
        · exact ⟨k + 1, acc ++ [⟨th, kd, ad, wd, own, er⟩], by simp, by omega, FN⟩
        · simp [intOf]; omega
      · rw [if_neg (by simpa using hth)] at hst
        have hb1 : (th == t) = false := by simpa using hth
        have kB : Keeps (fun _ => False) wr wr := Keeps.refl (fun _ => False) wr
        have FN : Hid (OwnR Ev.cl 6 44 wr w.heap.size u5 acc ∧ acc = (L.take (k + 1)).filter (fun e => decide (e.th = t)) ∧ acc.length ≤ k + 1 ∧ Keeps (fun _ => False) w wr) := ⟨oa.keeps kB (fun _ _ f => f), by rw [hst]; simp, by omega, kr.trans kB⟩
        clear hh hF oa hst
        go_wp2_with fail
        go_roundw
        · exact ⟨k + 1, acc, by simp, by omega, FN⟩
        · simp [intOf]; omega
    · obtain rfl : k = L.length := by omega
      rw [List.take_length] at hF
      have FN : Hid (OwnR Ev.cl 6 44 wr w.heap.size u5 (L.filter fun e => decide (e.th = t)) ∧ Keeps (fun _ => False) w wr) := ⟨by rw [← hF]; exact oa, kr⟩
      clear hh hF oa
      go_wp2_with fail
      go_ret
      exact ⟨_, rfl, FN.out.1, FN.out.2⟩
def thrS (n : Int) (e : Ev) : Int := if 0 ≤ e.th ∧ e.th ≤ 2147483647 then max n (e.th + 1) else n
def thrL (L : List Ev) : Int := L.foldl thrS 0
theorem thr_step {L : List Ev} {k : Nat} (hk : k < L.length) : thrL (L.take (k + 1)) = thrS (thrL (L.take k)) (L[k]) := by
  unfold thrL
  rw [List.take_succ_eq_append_getElem hk, List.foldl_append]; rfl
set_option maxRecDepth 100000 in
set_option maxHeartbeats 4000000 in
theorem threads_any (v : Value) (L : List Ev) (w : World) (hv : EvsAt w v L) : Calls Tryd.prog 21 #[v] w fun ex w' => ex = .returned (.int .i64 (thrL L)) ∧ Keeps (fun _ => False) w w' := by
  have hbig := hv.big
  have HV : Hid (∀ X, Keeps (fun _ => False) w X → EvsAt X v L) := fun X k => hv.keeps k
  obtain ⟨a, cap, rfl, hcap⟩ := hv.els.shape
  clear hv
  go_enter Tryd.func21, Tryd.ntmps21
  go_wp2_with fail
  go_loopw [3, 8] (fun x u wr => ∃ (k : Nat) (n : Int), x = .int .i64 n ∧ u = .int .i64 k ∧ k ≤ L.length ∧ 0 ≤ n ∧ n ≤ 2147483648 ∧ Hid (n = thrL (L.take k)) ∧ Keeps (fun _ => False) w wr) (fun _ u _ => L.length - (intOf u).toNat)
  case atStart => exact ⟨0, 0, rfl, rfl, Nat.zero_le _, by omega, by omega, rfl, Keeps.refl _ _⟩
  case round =>
    obtain ⟨k, n, rfl, rfl, hk, hn0, hn1, hF, kr⟩ := hrel
    by_cases hlt : k < L.length
    · have hki : (k : Int) < L.length := by omega
      have hk0 : (0 : Int) ≤ k := by omega
      obtain ⟨g, off, rfl, x0, x1, x2, x3, x4, x5⟩ := (HV.out wr kr).at k hlt
      have hst0 := thr_step hlt
      rw [← hF.out] at hst0
      have hst : Hid (thrL (L.take (k + 1)) = thrS n (L[k]'hlt)) := hst0
      clear hst0 hF
      generalize hev : L[k]'hlt = e at *
      clear hev
      obtain ⟨th, kd, ad, wd, own, er⟩ := e
      dsimp only at x0 x1 x2 x3 x4 x5
      have kB : Keeps (fun _ => False) wr (wr.alloc (.cells #[.int .i64 th, .int .i64 kd, .int .u64 ad, .int .u64 wd, .bool own, .int .i64 er] 44)) := (Keeps.refl (fun _ => False) wr).alloc _
      have KR := kr.trans kB
      by_cases ha : n ≤ th
      · by_cases hb : th ≤ 2147483647
        · have hwr : IntKind.i64.wrap (th + 1) = th + 1 := by rw [IntKind.wrap_i64]; omega
          have ha1 : decide (n ≤ th) = true := decide_eq_true ha
          have hb1 : decide (th ≤ 2147483647) = true := decide_eq_true hb
          have FN : Hid (th + 1 = thrL (L.take (k + 1))) := by unfold Hid; rw [hst.out]; unfold thrS; dsimp only; rw [if_pos ⟨by omega, hb⟩]; omega
          clear hst
          go_wp2_with fail
          go_roundw
          · exact ⟨k + 1, th + 1, by first | rfl | simp, by simp, by omega, by omega, by omega, FN, KR⟩
          · simp [intOf]; omega
        · have hb2 : ¬ th ≤ 2147483647 := hb
          have ha1 : decide (n ≤ th) = true := decide_eq_true ha
          have hb1 : decide (th ≤ 2147483647) = false := decide_eq_false hb
          have FN : Hid (n = thrL (L.take (k + 1))) := by unfold Hid; rw [hst.out]; unfold thrS; dsimp only; rw [if_neg (by omega)]
          clear hst
          go_wp2_with fail
          go_roundw
          · exact ⟨k + 1, n, by first | rfl | simp, by simp, by omega, by omega, by omega, FN, KR⟩
          · simp [intOf]; omega
      · have ha2 : ¬ n ≤ th := ha
        have ha1 : decide (n ≤ th) = false := decide_eq_false ha
        have FN : Hid (n = thrL (L.take (k + 1))) := by unfold Hid; rw [hst.out]; unfold thrS; dsimp only; split <;> omega
        clear hst
        go_wp2_with fail
        go_roundw
        · exact ⟨k + 1, n, by first | rfl | simp, by simp, by omega, by omega, by omega, FN, KR⟩
        · simp [intOf]; omega
    · obtain rfl : k = L.length := by omega
      have HT : Hid (n = thrL L) := by have := hF.out; rwa [List.take_length] at this
      clear hF
      go_wp2_with fail
      go_ret
      exact ⟨by rw [← HT.out]; rfl, kr⟩
set_option maxRecDepth 100000 in
set_option maxHeartbeats 4000000 in
theorem rthreads_any (v : Value) (L : List Ev) (w : World) (hv : EvsAt w v L) : Calls Tryd.prog 22 #[v] w fun ex w' => ex = .returned (.int .i64 (thrL L)) ∧ Keeps (fun _ => False) w w' := by
  have hbig := hv.big
  have HV : Hid (∀ X, Keeps (fun _ => False) w X → EvsAt X v L) := fun X k => hv.keeps k
  obtain ⟨a, cap, rfl, hcap⟩ := hv.els.shape
  clear hv
  go_enter Tryd.func22, Tryd.ntmps22
  go_wp2_with fail
  go_loopw [3, 4] (fun x u wr => ∃ (k : Nat) (n : Int), x = .int .i64 n ∧ u = .int .i64 k ∧ k ≤ L.length ∧ 0 ≤ n ∧ n ≤ 2147483648 ∧ Hid (n = thrL (L.take k)) ∧ Keeps (fun _ => False) w wr) (fun _ u _ => L.length - (intOf u).toNat)
  case atStart => exact ⟨0, 0, rfl, rfl, Nat.zero_le _, by omega, by omega, rfl, Keeps.refl _ _⟩
  case round =>
    obtain ⟨k, n, rfl, rfl, hk, hn0, hn1, hF, kr⟩ := hrel
    by_cases hlt : k < L.length
    · have hki : (k : Int) < L.length := by omega
      have hk0 : (0 : Int) ≤ k := by omega
      obtain ⟨g, off, rfl, x0, x1, x2, x3, x4, x5⟩ := (HV.out wr kr).at k hlt
      have hst0 := thr_step hlt
      rw [← hF.out] at hst0
      have hst : Hid (thrL (L.take (k + 1)) = thrS n (L[k]'hlt)) := hst0
      clear hst0 hF
      generalize hev : L[k]'hlt = e at *
      clear hev
      obtain ⟨th, kd, ad, wd, own, er⟩ := e
      dsimp only at x0 x1 x2 x3 x4 x5
      have kB : Keeps (fun _ => False) wr wr := Keeps.refl (fun _ => False) wr
      have KR := kr.trans kB
      by_cases ha : 0 ≤ th
      · by_cases hb : th ≤ 2147483647
        · have hwr : IntKind.i64.wrap (th + 1) = th + 1 := by rw [IntKind.wrap_i64]; omega
          by_cases hm : n ≤ th + 1
          · have hmx : max n (th + 1) = th + 1 := by omega
            have ha1 : decide (0 ≤ th) = true := decide_eq_true ha
            have hb1 : decide (th ≤ 2147483647) = true := decide_eq_true hb
            have FN : Hid (th + 1 = thrL (L.take (k + 1))) := by unfold Hid; rw [hst.out]; unfold thrS; dsimp only; rw [if_pos ⟨ha, hb⟩, hmx]
            clear hst
            go_wp2_with fail
            go_roundw
            · exact ⟨k + 1, th + 1, by first | rfl | (simp; omega), by simp, by omega, by omega, by omega, FN, KR⟩
            · simp [intOf]; omega
          · have hmx : max n (th + 1) = n := by omega
            have ha1 : decide (0 ≤ th) = true := decide_eq_true ha
            have hb1 : decide (th ≤ 2147483647) = true := decide_eq_true hb
            have FN : Hid (n = thrL (L.take (k + 1))) := by unfold Hid; rw [hst.out]; unfold thrS; dsimp only; rw [if_pos ⟨ha, hb⟩, hmx]
            clear hst
            go_wp2_with fail
            go_roundw
            · exact ⟨k + 1, n, by first | rfl | (simp; omega), by simp, by omega, by omega, by omega, FN, KR⟩
            · simp [intOf]; omega
        · have hb2 : ¬ th ≤ 2147483647 := hb
          have ha1 : decide (0 ≤ th) = true := decide_eq_true ha
          have hb1 : decide (th ≤ 2147483647) = false := decide_eq_false hb
          have FN : Hid (n = thrL (L.take (k + 1))) := by unfold Hid; rw [hst.out]; unfold thrS; dsimp only; rw [if_neg (by omega)]
          clear hst
          go_wp2_with fail
          go_roundw
          · exact ⟨k + 1, n, by first | rfl | simp, by simp, by omega, by omega, by omega, FN, KR⟩
          · simp [intOf]; omega
      · have ha2 : ¬ 0 ≤ th := ha
        have ha1 : decide (0 ≤ th) = false := decide_eq_false ha
        have FN : Hid (n = thrL (L.take (k + 1))) := by unfold Hid; rw [hst.out]; unfold thrS; dsimp only; rw [if_neg (by omega)]
        clear hst
        go_wp2_with fail
        go_roundw
        · exact ⟨k + 1, n, by first | rfl | simp, by simp, by omega, by omega, by omega, FN, KR⟩
        · simp [intOf]; omega
    · obtain rfl : k = L.length := by omega
      have HT : Hid (n = thrL L) := by have := hF.out; rwa [List.take_length] at this
      clear hF
      go_wp2_with fail
      go_ret
      exact ⟨by rw [← HT.out]; rfl, kr⟩
theorem eq_ty_self7 (a b c d e f g : Int) (w : World) : (Op.equalIn 10000 42 (.agg #[.int .i64 a, .int .i64 b, .int .i64 c, .int .u64 d, .int .i64 e, .int .i64 f, .int .i64 g]) (.agg #[.int .i64 a, .int .i64 b, .int .i64 c, .int .u64 d, .int .i64 e, .int .i64 f, .int .i64 g])).run Tryd.prog w = .ok true w := by
  have u3 := Tryd.underlying3
  have a3 := Tryd.isAgg3
  have z3 := Tryd.sizeOf3
  have u4 := Tryd.underlying40
  have a4 := Tryd.isAgg40
  have z4 := Tryd.sizeOf40
  have u5 := Tryd.underlying39
  have a5 := Tryd.isAgg39
  have z5 := Tryd.sizeOf39
  have hS : Tryd.prog.underlying 42 = some (.struct (Tryd.prog.fieldsOf 42)) := by kernel_rfl
  rw [show (10000 : Nat) = 9999 + 1 from rfl, run_equalIn_agg w 9999 42 _ _ hS (by kernel_rfl)]
  simp only [Program.fieldsOf, Tryd.underlying42]
  go_simp
set_option maxRecDepth 100000 in
set_option maxHeartbeats 4000000 in
theorem rsametries_any (va vb : Value) (L : List Ty) (hL : L.length ≤ 4611686018427387) (w : World) (ha : ElsAt Ty.cl 7 w va L) (hb : ElsAt Ty.cl 7 w vb L) : Calls Tryd.prog 18 #[va, vb] w fun e w' => e = .returned (.bool true) ∧ Keeps (fun _ => False) w w' := by
  have HA : Hid (∀ X, Keeps (fun _ => False) w X → ElsAt Ty.cl 7 X va L) := fun X k => ha.keeps ty_ne k
  have HB : Hid (∀ X, Keeps (fun _ => False) w X → ElsAt Ty.cl 7 X vb L) := fun X k => hb.keeps ty_ne k
  have k0 := Keeps.refl (fun _ => False) w
  have Q := eq_ty_self7
  obtain ⟨a0, c0, rfl, _⟩ := ha.shape
  obtain ⟨a1, c1, rfl, _⟩ := hb.shape
  clear ha hb
  go_enter Tryd.func18, Tryd.ntmps18
  go_wp2_with fail
  go_loopw [5] (fun u wr => ∃ (k : Nat), u = .int .i64 k ∧ k ≤ L.length ∧ Keeps (fun _ => False) w wr) (fun u _ => L.length - (intOf u).toNat)
  case atStart => exact ⟨0, rfl, Nat.zero_le _, k0⟩
  case round =>
    obtain ⟨k, rfl, hk, kr⟩ := hrel
    by_cases hlt : k < L.length
    · obtain ⟨ga, off, rfl, x⟩ := (HA.out wr kr).at k hlt
      obtain ⟨gb, offb, rfl, y⟩ := (HB.out wr kr).at k hlt
      have hki : (k : Int) < L.length := by omega
      have hk0 : (0 : Int) ≤ k := by omega
      generalize L[k]'hlt = i at *
      obtain ⟨th, fi, la, sn, how, rd, wr7⟩ := i
      have x0 := x 0 _ rfl
      have x1 := x 1 _ rfl
      have x2 := x 2 _ rfl
      have x3 := x 3 _ rfl
      have x4 := x 4 _ rfl
      have x5 := x 5 _ rfl
      have y0 := y 0 _ rfl
      have y1 := y 1 _ rfl
      have y2 := y 2 _ rfl
      have y3 := y 3 _ rfl
      have y4 := y 4 _ rfl
      have y5 := y 5 _ rfl
      simp only [Nat.add_zero] at x0 y0
      dsimp only at x0 x1 x2 x3 x4 x5 y0 y1 y2 y3 y4 y5
      have x6 := x 6 _ rfl
      have y6 := y 6 _ rfl
      dsimp only at x6 y6
      have Q1 := Q th fi la sn how rd wr7
      clear x y Q
      go_wp2_with fail
      go_quiet (fail)
      go_wp2_with fail
      go_roundw
      · exact ⟨k + 1, by simp, by omega, kr.drewN _⟩
      · simp [intOf]; omega
    · obtain rfl : k = L.length := by omega
      go_wp2_with fail
      go_ret
      exact ⟨rfl, kr⟩
set_option maxRecDepth 100000 in
set_option maxHeartbeats 4000000 in
theorem rsameints_any (va vb : Value) (L : List Int) (hL : L.length ≤ 4611686018427387) (w : World) (ha : ElsAt Ci 1 w va L) (hb : ElsAt Ci 1 w vb L) : Calls Tryd.prog 19 #[va, vb] w fun e w' => e = .returned (.bool true) ∧ Keeps (fun _ => False) w w' := by
  have HA : Hid (∀ X, Keeps (fun _ => False) w X → ElsAt Ci 1 X va L) := fun X k => ha.keeps ci_ne k
  have HB : Hid (∀ X, Keeps (fun _ => False) w X → ElsAt Ci 1 X vb L) := fun X k => hb.keeps ci_ne k
  have k0 := Keeps.refl (fun _ => False) w
  obtain ⟨a0, c0, rfl, _⟩ := ha.shape
  obtain ⟨a1, c1, rfl, _⟩ := hb.shape
  clear ha hb
  go_enter Tryd.func19, Tryd.ntmps19
  go_wp2_with fail
  go_loopw [5] (fun u wr => ∃ (k : Nat), u = .int .i64 k ∧ k ≤ L.length ∧ Keeps (fun _ => False) w wr) (fun u _ => L.length - (intOf u).toNat)
  case atStart => exact ⟨0, rfl, Nat.zero_le _, k0⟩
  case round =>
    obtain ⟨k, rfl, hk, kr⟩ := hrel
    by_cases hlt : k < L.length
    · obtain ⟨ga, off, rfl, x⟩ := (HA.out wr kr).at k hlt
      obtain ⟨gb, offb, rfl, y⟩ := (HB.out wr kr).at k hlt
      have hki : (k : Int) < L.length := by omega
      have hk0 : (0 : Int) ≤ k := by omega
      generalize L[k]'hlt = i at *
      have x0 := x 0 _ rfl
      have y0 := y 0 _ rfl
      simp only [Nat.add_zero, Nat.mul_one] at x0 y0
      clear x y
      go_wp2_with fail
      go_quiet (fail)
      go_wp2_with fail
      go_roundw
      · exact ⟨k + 1, by simp, by omega, kr.drewN _⟩
      · simp [intOf]; omega
    · obtain rfl : k = L.length := by omega
      go_wp2_with fail
      go_ret
      exact ⟨rfl, kr⟩
end Go.Proofs.YtjaldfmdjnkoeaaDoor
