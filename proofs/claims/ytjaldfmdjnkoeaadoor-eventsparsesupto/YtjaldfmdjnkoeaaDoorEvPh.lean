
/- Walks of the document's event and Parse (package parleyref13); EventsParses: the law's walk (package parleylaw13). No statement of the seat is proved here. -/
import Derived.Test.YtjaldfmdjnkoeaaDoorEvPd2
import Derived.Test.YtjaldfmdjnkoeaaDoorEvPd3
import Derived.Test.YtjaldfmdjnkoeaaDoorEvPd4
import Derived.Test.YtjaldfmdjnkoeaaDoorEvT
import Derived.Test.YtjaldfmdjnkoeaaDoorEvCb
namespace Go.Proofs.YtjaldfmdjnkoeaaDoor
open Go.RowKit Go.Shelf

set_option maxRecDepth 100000 in
set_option maxHeartbeats 4000000 in
theorem revent_any (s : List UInt8) (hs : s.length ≤ 1048576) (w : World) (hg : Gv w) : Calls Tryd.prog 51 #[.string ⟨s.toArray⟩] w fun ex w' => ex = .returned (.tuple #[.agg ((readE s).getD ev0).cells, .bool (readE s).isSome]) ∧ Keeps (fun _ => False) w w' := by
  by_cases h : (wordsL s).length < 2 ∨ 4 < (wordsL s).length
  · exact revent_out s hs w h
  · have : (wordsL s).length = 2 ∨ (wordsL s).length = 3 ∨ (wordsL s).length = 4 := by omega
    rcases this with h | h | h
    · exact revent2 s hs w hg h
    · exact revent3 s hs w hg h
    · exact revent4 s hs w hg h

theorem parseF_line {line rest : List UInt8} {acc : List Ev} (h : (10 : UInt8) ∉ line) (n : Nat) (hn : (line ++ 10 :: rest).length ≤ n) : parseF n (line ++ 10 :: rest) acc = match readE line with
    | some e => parseF rest.length rest (acc ++ [e])
    | none => (none, acc.length) := by
  have c := cutA_in (c := 10) line rest h
  cases hx : line ++ 10 :: rest with
  | nil => simp at hx
  | cons d t =>
    rw [hx] at c hn
    cases n with
    | zero => simp at hn
    | succ n =>
      show (match readE (cutA 10 (d :: t)).1, (cutA 10 (d :: t)).2.2 with
        | some e, true => parseF n (cutA 10 (d :: t)).2.1 (acc ++ [e])
        | _, _ => (none, acc.length)) = _
      rw [c]
      cases readE line with
      | none => rfl
      | some e =>
        have hl : rest.length ≤ n := by
          have := congrArg List.length hx
          simp only [List.length_append, List.length_cons] at this hn
          omega
        exact parseF_more _ _ _ _ hl (Nat.le_refl _)
theorem parseF_end {line : List UInt8} {acc : List Ev} (h : (10 : UInt8) ∉ line) (hne : line ≠ []) (n : Nat) : parseF n line acc = (none, acc.length) := by
  have c := cutA_out (c := 10) line h
  cases line with
  | nil => exact absurd rfl hne
  | cons d t =>
    cases n with
    | zero => rfl
    | succ n =>
      unfold parseF
      rw [c]
      dsimp only
      cases readE (d :: t) <;> rfl
set_option maxRecDepth 100000 in
set_option maxHeartbeats 8000000 in
theorem rparse_any (l : List UInt8) (hl : l.length ≤ 1048576) (w : World) (hg : Gv w) :
    Calls Tryd.prog 31 #[.string ⟨l.toArray⟩] w fun ex w' => ∃ v, ex = .returned (.tuple #[v, .int .i64 ((parseL l).2 : Int), .int .i64 (parErr l)]) ∧ OwnR Ev.cl 6 44 w' w.heap.size v ((parseL l).1.getD []) ∧ Keeps (fun _ => False) w w' := by
  have HG : Hid (∀ X, Keeps (fun _ => False) w X → Gv X) := fun X k => hg.keeps k
  have hsz := size_of l
  clear hg
  go_enter Tryd.func31, Tryd.ntmps31
  go_wp2_with fail
  go_loopw [5, 6, 7] (fun x u u2 wr => ∃ (acc : List Ev) (ln : List UInt8) (i : Nat), u = .string ⟨ln.toArray⟩ ∧ u2 = .int .i64 i ∧ i ≤ l.length ∧ ln.length ≤ i ∧ acc.length ≤ i ∧ Hid (OwnR Ev.cl 6 44 wr w.heap.size x acc ∧ (10 : UInt8) ∉ ln ∧ parseL l = parseF (ln ++ l.drop i).length (ln ++ l.drop i) acc ∧ Keeps (fun _ => False) w wr)) (fun _ _ u _ => l.length - (intOf u).toNat)
  case atStart => exact ⟨[], [], 0, rfl, rfl, Nat.zero_le _, by simp, by simp, OwnR.nil _ _ _ _, by simp, by simp [parseL], Keeps.refl _ _⟩
  case round =>
    obtain ⟨acc, ln, i, rfl, rfl, hil, hnl, hal, hh⟩ := hrel
    obtain ⟨o1, o2, o3, o4⟩ := hh.out
    by_cases hlt : i < l.length
    · have hli : (i : Int) < l.length := by omega
      have hi0 : (0 : Int) ≤ i := by omega
      have hs : i < (⟨l.toArray⟩ : ByteArray).size := by rw [hsz]; exact hlt
      have hat : ((⟨l.toArray⟩ : ByteArray)[i]'hs).toNat = (l[i]).toNat := rfl
      have hdr : l.drop i = l[i] :: l.drop (i + 1) := List.drop_eq_getElem_cons hlt
      rw [hdr] at o3
      have hcut : (⟨l.toArray⟩ : ByteArray).extract i (i + 1) = ⟨[l[i]].toArray⟩ := by
        rw [cut_str]
        congr 2
        rw [show i + 1 - i = 1 by omega, hdr]
        rfl
      obtain ⟨bb, cc, hv⟩ := o1.form
      subst hv
      by_cases hb : l[i] = 10
      · rw [hb] at o3 hat
        rw [parseF_line o2 _ (Nat.le_refl _)] at o3
        have RV := revent_any ln (by omega) wr (HG.out _ o4)
        have hwf := @readE_wf ln
        have HS : Hid (parseL l = _) := o3
        clear hh o3 hcut hdr hb
        generalize readE ln = re at *
        cases re with
        | none =>
          have hR : Hid (parseL l = (none, acc.length)) := HS.out
          clear HS hwf
          have RV2 : Calls Tryd.prog 51 #[.string ⟨ln.toArray⟩] wr fun ex w' => ex = .returned (.tuple #[.agg #[.int .i64 0, .int .i64 0, .int .u64 0, .int .u64 0, .bool false, .int .i64 0], .bool false]) ∧ Keeps (fun _ => False) wr w' := RV
          clear RV
          go_wp2_with fail
          refine RV2.mono ?_
          rintro ex w2 ⟨rfl, k2⟩
          have HO : Hid (Keeps (fun _ => False) w (w2.alloc (.cells #[.int .i64 0, .int .i64 0, .int .u64 0, .int .u64 0, .bool false, .int .i64 0] 44))) := (o4.trans k2).alloc _
          clear o1
          go_wp2_with fail
          go_ret3
          exact ⟨_, by unfold parErr; rw [hR.out]; rfl, by rw [hR.out]; exact OwnR.nilB _ _ _ _ _ HO.out.size, HO.out⟩
        | some e =>
          have he := (hwf rfl).1
          have RV2 : Calls Tryd.prog 51 #[.string ⟨ln.toArray⟩] wr fun ex w' => ex = .returned (.tuple #[.agg (evV e), .bool true]) ∧ Keeps (fun _ => False) wr w' := RV
          have hbb : (acc.length + 1) * 48 ≤ 140737488355328 := by omega
          clear RV hwf
          go_wp2_with fail
          refine RV2.mono ?_
          rintro ex w2 ⟨rfl, k2⟩
          have ka := (Keeps.refl (fun _ => False) w2).alloc (.cells (evV e) 44)
          have oa := o1.keeps (k2.trans ka) (fun _ _ f => f)
          obtain ⟨v', w3, r1, r2, r3⟩ := oa.push (P := Tryd.prog) (ts := 22) (ty := 22) ev_len ev_one (by decide) Tryd.underlying22 info_ev rfl (by decide) e (cs := evV e) rfl hbb
          rw [show (w2.alloc (.cells (evV e) 44)).heap.size = w2.heap.size + 1 by simp] at r1
          have K3 : Keeps (fun _ => False) w w3 := OwnR.kept r3 ((o4.trans k2).trans ka) oa
          have HR : Hid (_ = _) := r1
          have HO : Hid (OwnR Ev.cl 6 44 w3 w.heap.size v' (acc ++ [e]) ∧ Keeps (fun _ => False) w w3 ∧ parseL l = parseF (l.drop (i + 1)).length (l.drop (i + 1)) (acc ++ [e])) := ⟨r2, K3, HS.out⟩
          obtain ⟨th, kd, ad, wd, own, er⟩ := e
          unfold evV at HR
          dsimp only at HR
          clear HS o1 oa ka he hbb r1 r2 r3 K3 RV2
          simp only [evV]
          go_wp2_with (at_builtin; refine wpList_append_run rfl _ _ 22 rfl rfl rfl HR.out ?_; clear HR)
          go_roundw
          · obtain ⟨O1, O2, O3⟩ := HO.out
            refine ⟨acc ++ [⟨th, kd, ad, wd, own, er⟩], [], i + 1, rfl, by simp, by omega, by simp, by simp; omega, O1, by simp, by simpa using O3, O2⟩
          · simp [intOf]; omega
      · have hx : (l[i]).toNat ≠ 10 := fun h => hb (UInt8.toNat.inj (by rw [h]; rfl))
        have fin : Hid (OwnR Ev.cl 6 44 wr w.heap.size (.slice bb acc.length cc) acc ∧ (10 : UInt8) ∉ (ln ++ [l[i]]) ∧ parseL l = parseF ((ln ++ [l[i]]) ++ l.drop (i + 1)).length ((ln ++ [l[i]]) ++ l.drop (i + 1)) acc ∧ Keeps (fun _ => False) w wr) := by
          refine ⟨o1, ?_, ?_, o4⟩
          · intro q
            rcases List.mem_append.1 q with q | q
            · exact o2 q
            · simp at q; exact hb q.symm
          · rw [o3]; simp
        have s1 := str_app ln [l[i]]
        have t1 : ¬ 9223372036854775807 < ln.length + 1 := by omega
        have hwi : IntKind.i64.wrap ((i : Int) + 1) = (i : Int) + 1 := by rw [IntKind.wrap_i64]; omega
        have hi1 : (0 : Int) ≤ (i : Int) + 1 := by omega
        have hi2 : (i : Int) + 1 ≤ (l.length : Int) := by omega
        have hi3 : (i : Int) ≤ (i : Int) + 1 := by omega
        clear hh o1 o2 o3 o4 hdr
        generalize l[i] = lc at *
        generalize hlx : lc.toNat = lx at *
        have b1 : ((lx : Int) == 10) = false := by simp; omega
        clear hb
        go_wp2_with fail
        go_roundw
        · exact ⟨acc, ln ++ [lc], i + 1, by first | rfl | simp, by simp, by omega, by simp; omega, by omega, fin⟩
        · simp [intOf]; omega
    · obtain rfl : i = l.length := by omega
      rw [List.drop_length, List.append_nil] at o3
      obtain ⟨bb, cc, hv⟩ := o1.form
      subst hv
      by_cases hln : ln = []
      · subst hln
        have hR : Hid (parseL l = (some acc, acc.length)) := by show parseL l = _; rw [o3]; simp [parseF]
        have HO : Hid (OwnR Ev.cl 6 44 wr w.heap.size (.slice bb acc.length cc) acc ∧ Keeps (fun _ => False) w wr) := ⟨o1, o4⟩
        clear hh o1 o2 o3 o4
        go_wp2_with fail
        go_ret3
        exact ⟨_, by unfold parErr; rw [hR.out]; rfl, by rw [hR.out]; exact HO.out.1, HO.out.2⟩
      · have hR : Hid (parseL l = (none, acc.length)) := by show parseL l = _; rw [o3]; exact parseF_end o2 hln _
        have HO : Hid (Keeps (fun _ => False) w wr) := o4
        have h1 : (ByteArray.toList ⟨ln.toArray⟩ == []) = false := by simpa using hln
        have h2 : (ByteArray.toList ⟨ln.toArray⟩ != []) = true := by simpa using hln
        have h3 : ln.isEmpty = false := by cases ln; exact absurd rfl hln; rfl
        clear hh o1 o2 o3 o4
        go_wp2_with fail
        go_ret3
        exact ⟨_, by unfold parErr; rw [hR.out]; rfl, by rw [hR.out]; exact OwnR.nilB _ _ _ _ _ HO.out.size, HO.out⟩

/-- What is read of a text is written as it. -/
theorem parseF_forth : ∀ (n : Nat) (l : List UInt8) (acc R : List Ev) (m : Nat), parseF n l acc = (some R, m) → ∃ L, R = acc ++ L ∧ l = textE L ∧ ∀ e ∈ L, formedE e = true ∧ e.wf
  | n, [], acc, R, m, h => by
    have : parseF n [] acc = (some acc, acc.length) := by cases n <;> rfl
    rw [this] at h
    simp only [Prod.mk.injEq, Option.some.injEq] at h
    exact ⟨[], by simp [h.1], by simp [textE], by simp⟩
  | 0, d :: t, acc, R, m, h => by simp [parseF] at h
  | n + 1, d :: t, acc, R, m, h => by
    have h' : (match readE (cutA 10 (d :: t)).1, (cutA 10 (d :: t)).2.2 with
        | some e, true => parseF n (cutA 10 (d :: t)).2.1 (acc ++ [e])
        | _, _ => (none, acc.length)) = (some R, m) := h
    generalize hc : cutA 10 (d :: t) = C at h'
    obtain ⟨x, r, b⟩ := C
    dsimp only at h'
    cases hr : readE x with
    | none => rw [hr] at h'; simp at h'
    | some e =>
      rw [hr] at h'
      cases b with
      | false => simp at h'
      | true =>
        obtain ⟨L, e1, e2, e3⟩ := parseF_forth n r (acc ++ [e]) R m h'
        have hx := read_forth hr
        have hw := readE_wf hr
        refine ⟨e :: L, by rw [e1]; simp, ?_, fun y hy => ?_⟩
        · rw [cutA_yes hc, e2, hx]; simp [textE]
        · rcases List.mem_cons.1 hy with rfl | q
          · exact ⟨hw.2, hw.1⟩
          · exact e3 y q
theorem parse_forth {l : List UInt8} {R : List Ev} (h : (parseL l).1 = some R) : l = textE R ∧ ∀ e ∈ R, formedE e = true ∧ e.wf := by
  obtain ⟨L, e1, e2, e3⟩ := parseF_forth l.length l [] R (parseL l).2 (by rw [← h]; rfl)
  simp only [List.nil_append] at e1
  subst e1
  exact ⟨e2, e3⟩
theorem textE_ge : ∀ L : List Ev, L.length ≤ (textE L).length
  | [] => by simp
  | e :: L => by
    have := textE_ge L
    have e0 : textE (e :: L) = lineL e ++ 10 :: textE L := by simp [textE]
    rw [e0]; simp; omega
set_option maxRecDepth 100000 in
set_option maxHeartbeats 8000000 in
theorem parses_law (l : List UInt8) (hl : l.length ≤ 1048576) (w : World) (hg : Gv w) (h8 : 8 ≤ w.heap.size) :
    Calls Tryd.prog 5 #[.string ⟨l.toArray⟩] w fun ex w' => ex = .returned (.bool true) ∧ Keeps (fun _ => False) w w' := by
  have NN : ∀ (n : Int) (W : World), Calls Tryd.prog 29 #[.int .i64 n] W fun e w' => e = .returned (.int .i64 n) ∧ W = w' := fun n W => (num_any n W).mono (fun e w' h => ⟨h.1, h.2.symm⟩)
  have HG : Hid (∀ X, Keeps (fun _ => False) w X → Gv X ∧ 8 ≤ X.heap.size) := fun X k => ⟨hg.keeps k, Nat.le_trans h8 k.size⟩
  have hP : Hid (∀ X, Keeps (fun _ => False) w X → Calls Tryd.prog 30 #[.string ⟨l.toArray⟩] X fun ex w' => ∃ v, ex = .returned (.tuple #[v, .int .i64 ((parseL l).2 : Int), .int .i64 (parErr l)]) ∧ OwnR Ev.cl 6 44 w' X.heap.size v ((parseL l).1.getD []) ∧ Keeps (fun _ => False) X w') := fun X k => eparse_any l (by omega) X (HG.out X k).1 (HG.out X k).2
  have hR : Hid (∀ X, Keeps (fun _ => False) w X → Calls Tryd.prog 31 #[.string ⟨l.toArray⟩] X fun ex w' => ∃ v, ex = .returned (.tuple #[v, .int .i64 ((parseL l).2 : Int), .int .i64 (parErr l)]) ∧ OwnR Ev.cl 6 44 w' X.heap.size v ((parseL l).1.getD []) ∧ Keeps (fun _ => False) X w') := fun X k => rparse_any l hl X (HG.out X k).1
  have hK : Hid (∀ X, Keeps (fun _ => False) w X → Calls Tryd.prog 24 #[] X fun ex w' => ex = .returned (.bool true) ∧ Keeps (fun _ => False) X w') := fun X k => known_any X (HG.out X k).1 (HG.out X k).2
  have hFO : ∀ R, (parseL l).1 = some R → l = textE R ∧ ∀ e ∈ R, formedE e = true ∧ e.wf := fun R h => parse_forth h
  have hER : parErr l = if (parseL l).1.isSome then 0 else 234 := rfl
  have hlen : ((parseL l).1.getD []).length ≤ 1048576 := by
    cases hq : (parseL l).1 with
    | none => simp
    | some R =>
      have h1 := textE_ge R
      rw [← (hFO R hq).1] at h1
      simpa using Nat.le_trans h1 hl
  have hT : Hid (∀ X v, Keeps (fun _ => False) w X → ElsAt Ev.cl 6 X v ((parseL l).1.getD []) → parErr l = 0 → Calls Tryd.prog 25 #[v] X fun ex w' => ex = .returned (.tuple #[.string ⟨l.toArray⟩, .int .i64 0]) ∧ Keeps (fun _ => False) X w') := fun X v k h he => by
    cases hq : (parseL l).1 with
    | none => rw [hER, hq] at he; simp at he
    | some R =>
      obtain ⟨h1, h2⟩ := hFO R hq
      rw [hq] at h hlen
      simp only [Option.getD_some] at h hlen
      have := text_any v R X ⟨h, fun e he => (h2 e he).2, by omega⟩ (HG.out X k).1 (HG.out X k).2 (by omega)
      have hR : textR R = (l, 0) := by unfold textR; rw [if_pos (List.all_eq_true.2 fun e he => (h2 e he).1), ← h1]
      rw [hR] at this
      exact this
  have hE2 : parErr l = 0 ∨ parErr l = 234 := by rw [hER]; split <;> simp
  clear hFO hER hg h8
  generalize (parseL l).1.getD [] = P at *
  generalize (parseL l).2 = pn at *
  generalize parErr l = pe at *
  go_enter Tryd.func5, Tryd.ntmps5
  go_wp2_with fail
  refine (hP.out _ (Keeps.refl _ _)).mono ?_
  rintro ex w1 ⟨va, rfl, oa, k1⟩
  go_wp2_with fail
  refine (hP.out _ k1).mono ?_
  rintro ex w2 ⟨vb, rfl, ob, k2⟩
  have K2 := k1.trans k2
  go_wp2_with fail
  refine (hR.out _ K2).mono ?_
  rintro ex w3 ⟨vw, rfl, ow, k3⟩
  have K3 := K2.trans k3
  have oa3 := oa.keeps (k2.trans k3) (fun _ _ f => f)
  have ob3 := ob.keeps k3 (fun _ _ f => f)
  have hga : ∀ g, va.ownBlock = some g → w.heap.size ≤ g ∧ g < w1.heap.size := fun g hg => ⟨(own_block oa.own hg).2, (own_block oa.own hg).1⟩
  have S1 := rsame_any va vw P (by omega) w3 (oa3.els ev_len) (ow.els ev_len)
  have HS2 : Hid (∀ X, Keeps (fun _ => False) w3 X → Calls Tryd.prog 20 #[vb, vw] X fun e w' => e = .returned (.bool true) ∧ Keeps (fun _ => False) X w') := fun X k => rsame_any vb vw P (by omega) X ((ob3.els ev_len).keeps ev_ne k) ((ow.els ev_len).keeps ev_ne k)
  obtain ⟨aa, ca, hva⟩ := oa.form
  obtain ⟨ab, cb, hvb⟩ := ob.form
  obtain ⟨aw, cw, hvw⟩ := ow.form
  subst hva hvb hvw
  have HO : Hid (OwnR Ev.cl 6 44 w3 w.heap.size (.slice aa P.length ca) P ∧ OwnR Ev.cl 6 44 w3 w1.heap.size (.slice ab P.length cb) P ∧ OwnR Ev.cl 6 44 w3 w2.heap.size (.slice aw P.length cw) P) := ⟨oa3, ob3, ow⟩
  have HGA : Hid (∀ g, (Value.slice aa P.length ca).ownBlock = some g → w.heap.size ≤ g ∧ g < w1.heap.size) := hga
  clear hP hR oa ob ow oa3 ob3 hga
  go_wp2_with fail
  refine S1.mono ?_
  rintro ex w4 ⟨rfl, k4⟩
  go_wp2_with fail
  refine (HS2.out _ k4).mono ?_
  rintro ex w5 ⟨rfl, k5⟩
  have k35 := k4.trans k5
  have K5 := K3.trans k35
  go_wp2_with (go_at_call 29; refine (NN _ _).mono ?_; rintro ex w' ⟨rfl, rfl⟩)
  go_loopw [12] (fun u wr => ∃ (k : Nat) (M : List Ev), u = .int .i64 k ∧ k ≤ P.length ∧ M.length = P.length ∧ Hid (OwnR Ev.cl 6 44 wr w.heap.size (.slice aa P.length ca) M ∧ Keeps (fun q => w.heap.size ≤ q ∧ q < w1.heap.size) w5 wr)) (fun u _ => P.length - (intOf u).toNat)
  case atStart => exact ⟨0, P, rfl, Nat.zero_le _, rfl, HO.out.1.keeps k35 (fun _ _ f => f), Keeps.refl _ _⟩
  case round =>
    obtain ⟨k, M, rfl, hk, hM, hh⟩ := hrel
    obtain ⟨oM, kr⟩ := hh.out
    by_cases hlt : k < P.length
    · have hkM : k < M.length := by omega
      have hki : (k : Int) < P.length := by omega
      have hk0 : (0 : Int) ≤ k := by omega
      obtain ⟨g, cap, cur, hv, hg, hbk, hcur⟩ := oM.at (by omega)
      simp only [Value.slice.injEq] at hv
      obtain ⟨rfl, -, rfl⟩ := hv
      have hgb := HGA.out g rfl
      have c0 : wr.cell? ⟨g, k * 6, none⟩ = some (.int .i64 (M[k]'hkM).th) := by
        obtain ⟨g', off', hx, q⟩ := (oM.els ev_len).at k hkM
        simp only [Option.some.injEq, Addr.mk.injEq, and_true] at hx
        obtain ⟨rfl, rfl⟩ := hx
        have := q 0 _ rfl
        simpa using this
      have hfz : wr.frozen? ⟨g, k * 6, none⟩ = false := frozen_of_block hbk _
      have oN := oM.set ev_len k 0 ⟨-9, (M[k]'hkM).kd, (M[k]'hkM).ad, (M[k]'hkM).wd, (M[k]'hkM).own, (M[k]'hkM).er⟩ (.int .i64 (-9)) hkM (by decide) rfl
      have fin : Hid (OwnR Ev.cl 6 44 (wr.setCell ⟨g, k * 6, none⟩ (.int .i64 (-9))) w.heap.size (.slice (some ⟨g, 0, none⟩) P.length ca) (M.set k ⟨-9, (M[k]'hkM).kd, (M[k]'hkM).ad, (M[k]'hkM).wd, (M[k]'hkM).own, (M[k]'hkM).er⟩) ∧ Keeps (fun q => w.heap.size ≤ q ∧ q < w1.heap.size) w5 (wr.setCell ⟨g, k * 6, none⟩ (.int .i64 (-9)))) := ⟨oN, kr.setCell (.inr hgb) _⟩
      clear hh oM kr oN hbk hcur
      go_wp2_with fail
      go_roundw
      · exact ⟨k + 1, M.set k _, by simp, by omega, by simpa using hM, fin⟩
      · simp [intOf]; omega
    · obtain rfl : k = P.length := by omega
      have KW : Keeps (fun _ => False) w wr := K5.young kr (fun q hq => hq.1)
      obtain ⟨-, O2, O3⟩ := HO.out
      have O2' := (O2.keeps k35 (fun _ _ f => f)).keeps kr (fun g hg e => by have := (own_block O2.own hg).2; omega)
      have O3' := (O3.keeps k35 (fun _ _ f => f)).keeps kr (fun g hg e => by have := (own_block O3.own hg).2; have := k2.size; omega)
      have HE : Hid (∀ X, Keeps (fun _ => False) wr X → ElsAt Ev.cl 6 X (.slice ab P.length cb) P ∧ ElsAt Ev.cl 6 X (.slice aw P.length cw) P) := fun X k => ⟨(O2'.els ev_len).keeps ev_ne k, (O3'.els ev_len).keeps ev_ne k⟩
      clear hh oM kr O2 O3 O2' O3' HO
      rcases hE2 with rfl | rfl
      · have TX := hT.out wr _ KW (HE.out _ (Keeps.refl _ _)).1 rfl
        go_wp2_with fail
        refine TX.mono ?_
        rintro ex w6 ⟨rfl, k6⟩
        have SM := rsame_any _ _ P (by omega) w6 (HE.out _ k6).1 (HE.out _ k6).2
        have KN := fun X (k : Keeps (fun _ => False) w6 X) => hK.out X ((KW.trans k6).trans k)
        go_wp2_with (go_at_call 29; refine (NN _ _).mono ?_; rintro ex w' ⟨rfl, rfl⟩)
        refine SM.mono ?_
        rintro ex w7 ⟨rfl, k7⟩
        go_wp2_with fail
        refine (KN _ k7).mono ?_
        rintro ex w8 ⟨rfl, k8⟩
        go_wp2_with fail
        go_ret
        exact ⟨rfl, (KW.trans k6).trans (k7.trans k8)⟩
      · have SM := rsame_any _ _ P (by omega) wr (HE.out _ (Keeps.refl _ _)).1 (HE.out _ (Keeps.refl _ _)).2
        have KN := fun X (k : Keeps (fun _ => False) wr X) => hK.out X (KW.trans k)
        go_wp2_with fail
        refine SM.mono ?_
        rintro ex w7 ⟨rfl, k7⟩
        go_wp2_with fail
        refine (KN _ k7).mono ?_
        rintro ex w8 ⟨rfl, k8⟩
        go_wp2_with fail
        go_ret
        exact ⟨rfl, KW.trans (k7.trans k8)⟩
end Go.Proofs.YtjaldfmdjnkoeaaDoor
