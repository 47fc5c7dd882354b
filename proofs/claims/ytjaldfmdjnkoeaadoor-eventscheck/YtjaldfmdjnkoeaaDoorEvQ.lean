
/- A walk of Parse (package events). No statement of the seat is proved here. -/
import Derived.Test.YtjaldfmdjnkoeaaDoorEvP
namespace Go.Proofs.YtjaldfmdjnkoeaaDoor
open Go.RowKit Go.Shelf

/-- A text read line by line. -/
def parseF : Nat → List UInt8 → List Ev → Option (List Ev) × Nat
  | _, [], acc => (some acc, acc.length)
  | 0, _ :: _, acc => (none, acc.length)
  | n + 1, d :: t, acc => match readE (cutA 10 (d :: t)).1, (cutA 10 (d :: t)).2.2 with
    | some e, true => parseF n (cutA 10 (d :: t)).2.1 (acc ++ [e])
    | _, _ => (none, acc.length)
def parseL (l : List UInt8) : Option (List Ev) × Nat := parseF l.length l []
def parErr (l : List UInt8) : Int := if (parseL l).1.isSome then 0 else 234
theorem cutA_lt {c : UInt8} {l : List UInt8} (h : (cutA c l).2.2 = true) : (cutA c l).2.1.length < l.length := by
  induction l with
  | nil => simp [cutA] at h
  | cons d t ih =>
    unfold cutA at h ⊢
    split
    · simp
    · rename_i hc
      rw [if_neg hc] at h
      have := ih h
      simp; omega
theorem parseF_more : ∀ (n m : Nat) (l : List UInt8) (acc : List Ev), l.length ≤ n → l.length ≤ m → parseF n l acc = parseF m l acc
  | _, _, [], acc, _, _ => by simp [parseF]
  | 0, _, d :: t, acc, h, _ => by simp at h
  | _ + 1, 0, d :: t, acc, _, h => by simp at h
  | n + 1, m + 1, d :: t, acc, h1, h2 => by
    unfold parseF
    cases hr : readE (cutA 10 (d :: t)).1 with
    | none => rfl
    | some e =>
      cases hc : (cutA 10 (d :: t)).2.2 with
      | false => rfl
      | true =>
        have := cutA_lt hc
        exact parseF_more n m _ _ (by omega) (by omega)
theorem parP_bound (l : List UInt8) : (parP l).1 < 18446744073709551616 := by
  unfold parP
  have key : ∀ (l : List UInt8) (acc : Nat), acc ≤ 2 ^ 64 - 1 → ∀ u, Lib.parseUintM (2 ^ 64 - 1) acc l = .ok u → u ≤ 2 ^ 64 - 1 := by
    intro l
    induction l with
    | nil => intro acc h u hu; unfold Lib.parseUintM at hu; cases hu; exact h
    | cons c t ih =>
      intro acc h u hu
      unfold Lib.parseUintM at hu
      split at hu
      · split at hu
        · cases hu
        · split at hu
          · cases hu
          · rename_i h3
            exact ih _ (by omega) u hu
      · cases hu
  cases hp : Lib.parseUintB 64 l with
  | ok u =>
    unfold Lib.parseUintB at hp
    split at hp
    · cases hp
    · have := key l 0 (by decide) u hp
      simp only
      omega
  | «syntax» => simp
  | range => simp
theorem readE_wf {l : List UInt8} {e : Ev} (h : readE l = some e) : e.wf ∧ formedE e = true := by
  have hf : ∀ (e' : Ev) (m : Bool), finP e' m = some e → e' = e ∧ formedE e = true := fun e' m hh => by
    unfold finP at hh
    split at hh
    · rename_i q; cases hh; exact ⟨rfl, q.2⟩
    · cases hh
  have hb := parP_bound
  unfold readE at h
  split at h
  · cases h
  · split at h
    · cases h
    · split at h
      · split at h
        · cases h
        · split at h
          · cases h
          · obtain ⟨rfl, h2⟩ := hf _ _ h
            obtain ⟨q0, q1, q2, q3⟩ := formed_in h2
            refine ⟨⟨⟨by omega, by omega⟩, ⟨by omega, by omega⟩, ⟨by simp, by dsimp only; have := hb (cutA 32 (cutA 32 (cutA 32 l).2.1).2.1).1; omega⟩, ⟨by simp, by dsimp only; have := hb (cutA 32 (cutA 32 (cutA 32 (cutA 32 l).2.1).2.1).2.1).1; omega⟩, by dsimp only; omega, by dsimp only; omega⟩, h2⟩
      · split at h
        · split at h
          · cases h
          · obtain ⟨rfl, h2⟩ := hf _ _ h
            obtain ⟨q0, q1, q2, q3⟩ := formed_in h2
            refine ⟨⟨⟨by omega, by omega⟩, ⟨by omega, by omega⟩, ⟨by simp, by simp⟩, ⟨by simp, by dsimp only; have := hb (cutA 32 (cutA 32 (cutA 32 l).2.1).2.1).1; omega⟩, by dsimp only; omega, by dsimp only; omega⟩, h2⟩
        · split at h
          · split at h
            · cases h
            · rename_i hn
              obtain ⟨rfl, h2⟩ := hf _ _ h
              obtain ⟨q0, q1, q2, q3⟩ := formed_in h2
              have h6 := numP_le (m := 6) (l := (cutA 32 (cutA 32 (cutA 32 l).2.1).2.1).1) (by simpa using hn)
              refine ⟨⟨⟨by omega, by omega⟩, ⟨by omega, by omega⟩, ⟨by simp, by simp⟩, ⟨by simp, by simp⟩, by dsimp only; omega, by dsimp only; omega⟩, h2⟩
          · obtain ⟨rfl, h2⟩ := hf _ _ h
            obtain ⟨q0, q1, q2, q3⟩ := formed_in h2
            exact ⟨⟨⟨by omega, by omega⟩, ⟨by omega, by omega⟩, ⟨by simp, by simp⟩, ⟨by simp, by simp⟩, by dsimp only; omega, by dsimp only; omega⟩, h2⟩

set_option maxRecDepth 100000 in
set_option maxHeartbeats 8000000 in
theorem eparse_any (l : List UInt8) (hl : l.length < 1000000000) (w : World) (hg : Gv w) (h8 : 8 ≤ w.heap.size) :
    Calls Tryd.prog 30 #[.string ⟨l.toArray⟩] w fun ex w' => ∃ v, ex = .returned (.tuple #[v, .int .i64 ((parseL l).2 : Int), .int .i64 (parErr l)]) ∧ OwnR Ev.cl 6 44 w' w.heap.size v ((parseL l).1.getD []) ∧ Keeps (fun _ => False) w w' := by
  have HG : Hid (∀ X, Keeps (fun _ => False) w X → Gv X) := fun X k => hg.keeps k
  clear hg
  go_enter Tryd.func30, Tryd.ntmps30
  go_wp2_with fail
  go_loopw [5, 6] (fun x u wr => ∃ (acc : List Ev) (r : List UInt8), u = .string ⟨r.toArray⟩ ∧ Hid (OwnR Ev.cl 6 44 wr w.heap.size x acc ∧ parseL l = parseF r.length r acc ∧ r.length + acc.length ≤ l.length ∧ Keeps (fun _ => False) w wr)) (fun _ u _ => match u with | .string s => s.size | _ => 0)
  case atStart => exact ⟨[], l, rfl, OwnR.nil _ _ _ _, rfl, by simp, Keeps.refl _ _⟩
  case round =>
    obtain ⟨acc, r, rfl, hh⟩ := hrel
    obtain ⟨o1, o2, o3, o4⟩ := hh.out
    cases r with
    | nil =>
      have hR : Hid (parseL l = (some acc, acc.length)) := by show parseL l = _; rw [o2]; simp [parseF]
      obtain ⟨bb, cc, hv⟩ := o1.form
      have HO : Hid (OwnR Ev.cl 6 44 wr w.heap.size u5 acc ∧ Keeps (fun _ => False) w wr) := ⟨o1, o4⟩
      subst hv
      clear hh o1 o2 o3 o4
      go_wp2_with fail
      go_ret3
      exact ⟨_, by unfold parErr; rw [hR.out]; rfl, by rw [hR.out]; exact HO.out.1, HO.out.2⟩
    | cons d t =>
      have CU := cut_any 10 (d :: t) (by simp only [List.length_cons] at o3 ⊢; omega) wr (HG.out _ o4)
      have hcl := cutA_len 10 (d :: t)
      have hct := @cutA_lt 10 (d :: t)
      have hst : parseL l = match readE (cutA 10 (d :: t)).1, (cutA 10 (d :: t)).2.2 with
        | some e, true => parseF t.length (cutA 10 (d :: t)).2.1 (acc ++ [e])
        | _, _ => (none, acc.length) := by rw [o2]; rfl
      have hdt : ((d :: t) == []) = false := rfl
      generalize hcu : cutA 10 (d :: t) = cu at *
      obtain ⟨cl, cr, cb⟩ := cu
      dsimp only at *
      have RD := fun X (q : Keeps (fun _ => False) wr X) => read_any cl (by simp only [List.length_cons] at o3 hcl; omega) X (HG.out X (o4.trans q)) (Nat.le_trans h8 (o4.trans q).size)
      have hwf := @readE_wf cl
      have HS : Hid (parseL l = _) := hst
      have hlt2 : (d :: t).length = t.length + 1 := rfl
      obtain ⟨bb, cc, hv⟩ := o1.form
      subst hv
      have HL : Hid ((d :: t).length + acc.length ≤ l.length ∧ cl.length + cr.length ≤ (d :: t).length ∧ (cb = true → cr.length < (d :: t).length)) := ⟨o3, hcl, hct⟩
      clear hst hcu hh o2 hcl hct
      generalize readE cl = re at *
      generalize (d :: t) = r at *
      go_wp2_with fail
      refine CU.mono ?_
      rintro ex w1 ⟨rfl, k1⟩
      go_wp2_with fail
      refine (RD _ k1).mono ?_
      rintro ex w2 ⟨rfl, k2⟩
      have K2 := k1.trans k2
      clear CU RD k1 k2
      cases re with
      | none =>
        have hR : Hid (parseL l = (none, acc.length)) := HS.out
        have HO : Hid (Keeps (fun _ => False) w (w2.alloc (.cells (evV ev0) 44))) := (o4.trans K2).alloc _
        unfold evV ev0 at HO
        simp only [Option.getD_none, Option.isSome_none, evV, ev0]
        clear HL HS hwf o1
        cases cb
        all_goals
          go_wp2_with fail
          go_ret3
          exact ⟨_, by unfold parErr; rw [hR.out]; rfl, by rw [hR.out]; exact OwnR.nilB _ _ _ _ _ HO.out.size, HO.out⟩
      | some e =>
        have he := (hwf rfl).1
        have ka := (Keeps.refl (fun _ => False) w2).alloc (.cells (evV e) 44)
        have oa := o1.keeps (K2.trans ka) (fun _ _ f => f)
        have hbb : (acc.length + 1) * 48 ≤ 140737488355328 := by have := HL.out.1; omega
        cases cb
        · have hR : Hid (parseL l = (none, acc.length)) := HS.out
          have HO : Hid (Keeps (fun _ => False) w (w2.alloc (.cells (evV e) 44))) := o4.trans (K2.trans ka)
          unfold evV at HO
          obtain ⟨th, kd, ad, wd, own, er⟩ := e
          dsimp only at HO
          clear HL HS hwf o1 oa ka he hbb
          simp only [Option.getD_some, Option.isSome_some, evV]
          go_wp2_with fail
          go_ret3
          exact ⟨_, by unfold parErr; rw [hR.out]; rfl, by rw [hR.out]; exact OwnR.nilB _ _ _ _ _ HO.out.size, HO.out⟩
        · obtain ⟨v', w3, r1, r2, r3⟩ := oa.push (P := Tryd.prog) (ts := 22) (ty := 22) ev_len ev_one (by decide) Tryd.underlying22 info_ev rfl (by decide) e (cs := evV e) rfl hbb
          rw [show (w2.alloc (.cells (evV e) 44)).heap.size = w2.heap.size + 1 by simp] at r1
          have K3 : Keeps (fun _ => False) w w3 := OwnR.kept r3 ((o4.trans K2).trans ka) oa
          have HR : Hid (_ = _) := r1
          have HO : Hid (OwnR Ev.cl 6 44 w3 w.heap.size v' (acc ++ [e]) ∧ Keeps (fun _ => False) w w3 ∧ parseL l = parseF t.length cr (acc ++ [e])) := ⟨r2, K3, HS.out⟩
          obtain ⟨th, kd, ad, wd, own, er⟩ := e
          unfold evV at HR
          dsimp only at HR
          clear HS hwf o1 oa ka he hbb r1 r2 r3 K3
          simp only [Option.getD_some, Option.isSome_some, evV]
          go_wp2_with (at_builtin; refine wpList_append_run rfl _ _ 22 rfl rfl rfl HR.out ?_; clear HR)
          go_roundw
          · obtain ⟨O1, O2, O3⟩ := HO.out
            obtain ⟨l1, l2, l3⟩ := HL.out
            have l4 := l3 rfl
            refine ⟨acc ++ [⟨th, kd, ad, wd, own, er⟩], cr, rfl, O1, ?_, ?_, O2⟩
            · rw [O3]; exact parseF_more _ _ _ _ (by omega) (Nat.le_refl _)
            · simp; omega
          · have l4 := HL.out.2.2 rfl
            simp [ByteArray.size]; omega
end Go.Proofs.YtjaldfmdjnkoeaaDoor
