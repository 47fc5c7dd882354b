
/- Walks of the document's Modes and of Plain of both. No statement of the seat is proved here. -/
import Derived.Test.YtljapgoeomedkaaDoorDbD
import Derived.Test.YtljapgoeomedkaaDoorChM
namespace Go.Proofs.YtljapgoeomedkaaDoor
open Go.RowKit Go.Shelf

/-- A row of modes of the call's own. -/
structure Mts (w : World) (base : Nat) (v : Value) (l : List Int) : Prop where
  own : w.ownsRow base 70 1 v l.length (l.map (Value.int .i64))
  base : base ≤ w.heap.size
theorem Mts.nil (w : World) : Mts w w.heap.size (.slice none 0 0) [] := ⟨⟨rfl, .inl ⟨rfl, rfl⟩⟩, Nat.le_refl _⟩
theorem Mts.keeps {w w' : World} {base : Nat} {v : Value} {l : List Int} {S : Nat → Prop} (h : Mts w base v l) (k : Keeps S w w') (hs : ∀ g, v.ownBlock = some g → ¬ S g) : Mts w' base v l :=
  ⟨own_keeps h.own k hs, Nat.le_trans h.base k.size⟩
theorem Mts.push {w : World} {base : Nat} {v : Value} {l : List Int} (h : Mts w base v l) (x : Int) (hb : (l.length + 1) * 8 ≤ 140737488355328) :
    ∃ v' w', (Builtin.append_ #[24, 24] 24 #[v, .slice (some ⟨w.heap.size, 0, none⟩) 1 1]).run Tryd.prog (w.alloc (.cells #[.int .i64 x] 70)) = .ok v' w' ∧ Mts w' base v' (l ++ [x]) ∧ Grew w w' v v' := by
  have k0 := (Keeps.refl (fun _ => False) w).alloc (.cells #[.int .i64 x] 70)
  have h0 := h.keeps k0 (fun _ _ f => f)
  obtain ⟨v', w', h1, h2, h3, h4⟩ := own_push (P := Tryd.prog) (w.alloc (.cells #[.int .i64 x] 70)) base 24 24 70 (.int .i64 0) 1 8 Tryd.underlying24 info_mode rfl (by decide) v l.length _ h0.own ⟨w.heap.size, 0, none⟩ 1 1 [.int .i64 x] rfl (fun j u hj => by
    match j with
    | 0 => simp at hj; subst hj; rw [addr_add, cell_of_block (MapKept.heap_alloc _ _).1]; rfl
    | j + 1 => simp at hj) (by simp [Value.oneCell']) (by omega) (by decide) h0.base
  refine ⟨v', w', h1, ⟨by simpa using h2, Nat.le_trans h0.base h3.size⟩, Grew.ahead k0 ⟨(Keeps.refl _ _).grown h3 fun k hk => .inr hk, h4⟩⟩
theorem Mts.kept {w wr w' : World} {u u' : Value} {X : List Int} {b : Nat} (h : Grew wr w' u u') (k : Keeps (fun _ => False) w wr) (hb : Mts wr b u X) (hwb : w.heap.size ≤ b) : Keeps (fun _ => False) w w' :=
  ⟨h.keeps.os.trans k.os, h.keeps.tape.trans k.tape, h.keeps.output.trans k.output, Nat.le_trans k.size h.keeps.size, fun g hg hs => (h.keeps.block g (Nat.lt_of_lt_of_le hg k.size) fun e => by
    have := (own_block hb.own e).2; omega).trans (k.block g hg hs)⟩
theorem Mts.form {w : World} {base : Nat} {v : Value} {L : List Int} (h : Mts w base v L) : ∃ b c, v = .slice b L.length c := by
  rcases h.own.2 with ⟨rfl, h2⟩ | ⟨g, cap, cur, rfl, _⟩
  · exact ⟨none, 0, by rw [h2]⟩
  · exact ⟨_, cap, rfl⟩
theorem Mts.st {w : World} {base : Nat} {v : Value} {L : List Int} (h : Mts w base v L) (b : Nat) (hb : b ≤ base) : NumSt b w v L := fun X k => by
  rcases h.own.2 with ⟨rfl, h2⟩ | ⟨g, cap, cur, rfl, h1, h2, h3, h4, h5, h6⟩
  · obtain rfl := List.length_eq_zero_iff.1 h2
    exact num_nil X
  · refine num_block ((k.block g (lt_of_block h2) (by omega)).trans h2) rfl (fun j hj => ?_) cap
    have : (cur.toList.take (L.length * 1))[j]? = (L.map (Value.int .i64))[j]? := by rw [h6]
    rw [List.getElem?_take_of_lt (by omega)] at this
    simpa [hj] using this

def RmPost (p : List I5) (w : World) (e : Ending) (w' : World) : Prop := ∃ mv, e = .returned (.tuple #[mv, .int .i64 (verd p).2]) ∧ Keeps (fun _ => False) w w' ∧ ((verd p).2 = 0 → NumSt w.heap.size w' mv ((List.range p.length).map (modeN p))) ∧ ((verd p).2 ≠ 0 → mv = .slice none 0 0)
set_option maxRecDepth 100000 in
set_option maxHeartbeats 4000000 in
theorem rmodes_any (v : Value) (p : List I5) (w : World) (h : InsAt w v p) : Calls Tryd.prog 13 #[v] w (RmPost p w) := by
  have PA := rprogram_any v p w h
  have HI : Hid (∀ X, Keeps (fun _ => False) w X → InsAt X v p) := fun X k => h.keeps k
  obtain ⟨⟨av, cap, rfl, -⟩, -, -⟩ := h
  go_enter Tryd.func13, Tryd.ntmps13
  go_wp2_with fail
  refine PA.mono ?_
  rintro e w1 ⟨rfl, k1⟩
  have K1 := k1.alloc (.cells (wrV (verd p).1 (verd p).2) 40)
  by_cases hv : (verd p).2 = 0
  · obtain ⟨hp, hl⟩ := verd_ok_len hv
    have HV : Hid ((verd p).2 = 0) := hv
    have SP := rspread_any _ p _ (HI.out _ K1) hp hl
    rw [hv] at K1 SP ⊢
    generalize (verd p).1 = a at *
    unfold wrV at K1 SP ⊢
    clear hv PA
    go_wp2_with fail
    refine SP.mono ?_
    rintro e w2 ⟨f, rfl, hf, k2, hF⟩
    have K2 := K1.trans k2
    have M0 := Mts.nil w2
    have hw2 := K2.size
    have lf := hF.lt
    clear SP K1
    go_wp2_with fail
    go_loopw [6, 7] (fun u m wr => ∃ k : Nat, m = .int .i64 k ∧ k ≤ p.length ∧ Hid (Keeps (fun _ => False) w wr ∧ Fn3 wr f p.length (reachB p) ∧ Mts wr w2.heap.size u ((List.range k).map (modeN p)))) (fun _ m _ => p.length - (intOf m).toNat)
    case atStart => exact ⟨0, rfl, Nat.zero_le _, ⟨K2, hF, M0⟩⟩
    case round =>
      clear K2 hF M0
      obtain ⟨k, rfl, hk, hh⟩ := hrel
      obtain ⟨hK, hF, hM⟩ := hh.out
      by_cases hlt : k < p.length
      · have hki : (k : Int) < p.length := by omega
        obtain ⟨c0, c1⟩ := hF.cell hlt
        obtain ⟨v', w3, r1, M3, G3⟩ := hM.push (modeN p k) (by simp; omega)
        have K3 := Mts.kept G3 hK hM hw2
        have F3 := hF.keeps G3.keeps (fun e => by have := (own_block hM.own e).2; omega)
        rw [show (List.range k).map (modeN p) ++ [modeN p k] = (List.range (k + 1)).map (modeN p) by rw [List.range_succ]; simp] at M3
        have hmn : modeN p k = modeB (reachB p k false) (reachB p k true) := rfl
        rw [hmn] at r1
        have HR : Hid (_ = _) := r1
        have HZ : Hid (Keeps (fun _ => False) w w3 ∧ Fn3 w3 f p.length (reachB p) ∧ Mts w3 w2.heap.size v' ((List.range (k + 1)).map (modeN p))) := ⟨K3, F3, M3⟩
        generalize reachB p k false = x at *
        generalize reachB p k true = y at *
        clear hh hK hF hM r1 M3 G3 K3 F3 hmn
        rcases x with _ | _ <;> rcases y with _ | _
        · go_wp2_with (at_builtin; refine wpList_append_run rfl _ _ 24 rfl rfl rfl HR.out ?_)
          go_roundw
          · exact ⟨k + 1, by simp, by omega, HZ.out⟩
          · simp [intOf]; omega
        · go_wp2_with (at_builtin; refine wpList_append_run rfl _ _ 24 rfl rfl rfl HR.out ?_)
          go_roundw
          · exact ⟨k + 1, by simp, by omega, HZ.out⟩
          · simp [intOf]; omega
        · go_wp2_with (at_builtin; refine wpList_append_run rfl _ _ 24 rfl rfl rfl HR.out ?_)
          go_roundw
          · exact ⟨k + 1, by simp, by omega, HZ.out⟩
          · simp [intOf]; omega
        · go_wp2_with (at_builtin; refine wpList_append_run rfl _ _ 24 rfl rfl rfl HR.out ?_)
          go_roundw
          · exact ⟨k + 1, by simp, by omega, HZ.out⟩
          · simp [intOf]; omega
      · have hki : ¬ (k : Int) < p.length := by omega
        obtain rfl : k = p.length := by omega
        clear hh
        go_wp2_with fail
        go_ret2
        unfold RmPost
        rw [HV.out]
        exact ⟨_, rfl, hK, fun _ => hM.st _ hw2, fun h => absurd rfl h⟩
  · have HV : Hid ((verd p).2 ≠ 0) := hv
    have hne : ∀ q, RmPost p w (.returned (.tuple #[.slice none 0 0, .int .i64 (verd p).2])) ((w1.alloc (.cells (wrV (verd p).1 (verd p).2) 40)).drewN q) := fun q => ⟨_, rfl, K1.drewN q, fun h => absurd h HV.out, fun _ => rfl⟩
    generalize (verd p).2 = b at *
    generalize (verd p).1 = a at *
    unfold wrV at hne ⊢
    have HN : Hid (_) := hne
    clear PA hne K1
    go_wp2_with fail
    go_quiet (fail)
    go_wp2_with fail
    go_ret2
    exact HN.out _

/-- Does a way lead to a plain access? -/
noncomputable def plainF (p : List I5) (k : Nat) : Bool := (decide ((at5 p k).op = 10) || decide ((at5 p k).op = 11)) && (reachB p k false || reachB p k true)
noncomputable def plainV (p : List I5) : Bool := if (verd p).2 = 0 then (firstK p.length (plainF p)).isSome else false
theorem plainV_yes {p : List I5} (hv : (verd p).2 = 0) {k : Nat} (h1 : k < p.length) (h2 : plainF p k = true) (h3 : ∀ j, j < k → plainF p j = false) : plainV p = true := by
  unfold plainV; rw [if_pos hv, firstK_some.2 ⟨h1, h2, h3⟩]; rfl
theorem plainV_no {p : List I5} (hv : (verd p).2 = 0) (h : ∀ j, j < p.length → plainF p j = false) : plainV p = false := by
  unfold plainV; rw [if_pos hv, firstK_none.2 h]; rfl
theorem plainV_bad {p : List I5} (hv : (verd p).2 ≠ 0) : plainV p = false := by
  unfold plainV; rw [if_neg hv]
def PlPost (p : List I5) (w : World) (e : Ending) (w' : World) : Prop := e = .returned (.tuple #[.bool (plainV p), .int .i64 (verd p).2]) ∧ Keeps (fun _ => False) w w'
set_option maxRecDepth 100000 in
set_option maxHeartbeats 4000000 in
theorem rplain_any (v : Value) (p : List I5) (w : World) (h : InsAt w v p) : Calls Tryd.prog 15 #[v] w (PlPost p w) := by
  have RM := rmodes_any v p w h
  have HI : Hid (∀ X, Keeps (fun _ => False) w X → InsAt X v p) := fun X k => h.keeps k
  obtain ⟨⟨av, cap, rfl, -⟩, -, -⟩ := h
  go_enter Tryd.func15, Tryd.ntmps15
  go_wp2_with fail
  refine RM.mono ?_
  rintro e w1 ⟨mv, rfl, k1, hok, hno⟩
  by_cases hv : (verd p).2 = 0
  · have hN := hok hv w1 (Keeps.refl _ _)
    obtain ⟨ma, mc, hmv, hmc⟩ := hN
    simp only [List.length_map, List.length_range] at hmv
    subst hmv
    have HV : Hid ((verd p).2 = 0) := hv
    have hl := verd_ok_len hv
    rw [hv]
    clear hok hno RM hv
    go_wp2_with fail
    go_loopw [6] (fun m wr => ∃ k : Nat, m = .int .i64 k ∧ k ≤ p.length ∧ wr = w1 ∧ Hid (∀ j, j < k → plainF p j = false)) (fun m _ => p.length - (intOf m).toNat)
    case atStart => exact ⟨0, rfl, Nat.zero_le _, rfl, fun j hj => by omega⟩
    case round =>
      obtain ⟨k, rfl, hk, rfl, hq⟩ := hrel
      by_cases hlt : k < p.length
      · have hki : (k : Int) < p.length := by omega
        obtain ⟨mg, mo, rfl, x0⟩ := hmc k (by simpa using hlt)
        simp only [List.getElem_map, List.getElem_range] at x0
        obtain ⟨⟨av', cap', hv, hc⟩, -, -⟩ := HI.out _ k1
        cases hv
        obtain ⟨pg, po, rfl, d0, -, -, -, -⟩ := hc k hlt
        have h5 : p[k]'hlt = at5 p k := by simp [at5, hlt]
        rw [h5] at d0
        have hpf : plainF p k = ((decide ((at5 p k).op = 10) || decide ((at5 p k).op = 11)) && (reachB p k false || reachB p k true)) := rfl
        have hmd : modeN p k = modeB (reachB p k false) (reachB p k true) := rfl
        generalize (at5 p k).op = op at *
        have hne : modeN p k ≠ 0 ↔ (reachB p k false || reachB p k true) = true := by
          rw [hmd]; cases reachB p k false <;> cases reachB p k true <;> simp [modeB]
        generalize (reachB p k false || reachB p k true) = r at *
        generalize modeN p k = md at *
        clear hc h5 hmd
        by_cases hm : md = 0
        · have hr : r = false := by
            rcases r with _ | _
            · rfl
            · exact absurd hm (hne.2 rfl)
          subst hm
          rw [hr, Bool.and_false] at hpf
          have HQ : Hid (∀ j, j < k + 1 → plainF p j = false) := upto_more hq.out hpf
          clear hq hpf hne
          go_wp2_with fail
          go_roundw
          · exact ⟨k + 1, by simp, by omega, by first | rfl | trivial, HQ.out⟩
          · simp [intOf]; omega
        · have hr : r = true := hne.1 hm
          rw [hr, Bool.and_true] at hpf
          by_cases o1 : op = 10
          · subst o1
            have hy := plainV_yes HV.out hlt (by rw [hpf]; rfl) hq.out
            clear hq hpf hne
            go_wp2_with fail
            go_ret2
            exact ⟨by rw [hy, HV.out]; rfl, k1⟩
          · by_cases o2 : op = 11
            · subst o2
              have hy := plainV_yes HV.out hlt (by rw [hpf]; rfl) hq.out
              clear hq hpf hne
              go_wp2_with fail
              go_ret2
              exact ⟨by rw [hy, HV.out]; rfl, k1⟩
            · have HQ : Hid (∀ j, j < k + 1 → plainF p j = false) := upto_more hq.out (by rw [hpf]; simp [o1, o2])
              clear hq hpf hne
              have m1 : (md != 0) = true := by simp [hm]
              have m2 : (op == 10) = false := by simp [o1]
              have m3 : (op == 11) = false := by simp [o2]
              go_wp2_with fail
              go_roundw
              · exact ⟨k + 1, by simp, by omega, by first | rfl | trivial, HQ.out⟩
              · simp [intOf]; omega
      · have hki : ¬ (k : Int) < p.length := by omega
        obtain rfl : k = p.length := by omega
        have hy := plainV_no HV.out hq.out
        clear hq
        go_wp2_with fail
        go_ret2
        exact ⟨by rw [hy, HV.out]; rfl, k1⟩
  · obtain rfl := hno hv
    have hy := plainV_bad hv
    have HY : Hid (PlPost p w (.returned (.tuple #[.bool false, .int .i64 (verd p).2])) w1) := ⟨by rw [hy], k1⟩
    generalize (verd p).2 = b at *
    clear hok hno RM hy
    go_wp2_with fail
    go_loopw [6] (fun m wr => m = .int .i64 0 ∧ wr = w1) (fun _ _ => 0)
    case atStart => exact ⟨rfl, rfl⟩
    case round =>
      obtain ⟨rfl, rfl⟩ := hrel
      go_wp2_with fail
      go_ret2
      exact HY.out
end Go.Proofs.YtljapgoeomedkaaDoor
