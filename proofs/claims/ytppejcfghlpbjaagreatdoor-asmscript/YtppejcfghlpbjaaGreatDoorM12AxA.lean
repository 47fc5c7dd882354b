/-
  No statement of the seat is proved here. (Several texts in one: AxA, AxB, AxC, AxE.)
-/
import Derived.Test.YtppejcfghlpbjaaGreatDoorM11AwG

/- A script's lines of numbers, as the document reads them: pure facts, and its walk (package parleyref09: words). No statement of the seat is proved here. -/
namespace Go.Proofs.YtppejcfghlpbjaaGreatDoor
open Go.RowKit Go.Shelf

def allM (most : Nat) : List (List UInt8) → Option (List Nat)
  | [] => some []
  | x :: t => (numM most x).bind fun n => (allM most t).map (n :: ·)
/-- Numbers, a blank ahead of each. -/
def numsG (most : Nat) : List UInt8 → Option (List Nat)
  | [] => some []
  | c :: r => if c = 32 then allM most (pcs r) else none
def wordsM (most : Nat) (word s : List UInt8) : Option (List Nat) := if word.length < s.length ∧ s.take word.length = word then numsG most (s.drop word.length) else none
theorem numsG_bad {most : Nat} {rest : List UInt8} (h0 : 0 < rest.length) (hc : rest[0] ≠ 32) : numsG most rest = none := by
  cases rest with
  | nil => simp at h0
  | cons c r => rw [numsG, if_neg (by simpa using hc)]
theorem numsG_step {most : Nat} {rest : List UInt8} {to : Nat} (h0 : 0 < rest.length) (hc : rest[0] = 32) (h1 : 1 ≤ to) (h2 : to ≤ rest.length) (hn : ∀ j (hj : j < rest.length), 1 ≤ j → j < to → rest[j] ≠ 32) (he : ∀ h : to < rest.length, rest[to] = 32) :
    numsG most rest = (numM most ((rest.drop 1).take (to - 1))).bind fun n => (numsG most (rest.drop to)).map (n :: ·) := by
  cases rest with
  | nil => simp at h0
  | cons c r =>
    simp only [List.getElem_cons_zero] at hc
    subst hc
    obtain ⟨q, rfl⟩ : ∃ q, to = q + 1 := ⟨to - 1, by omega⟩
    simp only [List.length_cons] at h2
    have hx : (32 : UInt8) ∉ r.take q := fun hm => by
      obtain ⟨k, hk, e⟩ := List.getElem_of_mem hm
      simp only [List.length_take] at hk
      rw [List.getElem_take] at e
      exact hn (k + 1) (by simp; omega) (by omega) (by omega) e
    rw [numsG, if_pos rfl, List.drop_succ_cons, List.drop_zero, Nat.add_sub_cancel, List.drop_succ_cons]
    have hr : r = r.take q ++ r.drop q := (List.take_append_drop q r).symm
    cases hd : r.drop q with
    | nil =>
      rw [hd, List.append_nil] at hr
      rw [← hr, pcs_word r (by rw [hr]; exact hx)]
      simp [allM, numsG]
    | cons d y =>
      have hq : q < r.length := by
        have := congrArg List.length hd
        rw [List.length_drop] at this
        simp at this
        omega
      have hd32 : d = 32 := by
        have := he (by simp; omega)
        simp only [List.getElem_cons_succ] at this
        rw [List.drop_eq_getElem_cons hq] at hd
        have := (List.cons.inj hd).1
        rw [← this]
        assumption
      subst hd32
      rw [hd] at hr
      rw [numsG, if_pos rfl]
      conv => lhs; rw [hr, pcs_blank _ _ hx]
      rw [allM]
/-- A row of words of the call's own. -/
structure Nums (w : World) (base : Nat) (v : Value) (L : List Nat) : Prop where
  own : w.ownsRow base 40 1 v L.length (L.map fun (n : Nat) => Value.int .u64 (n : Int))
  base : base ≤ w.heap.size
theorem Nums.nil (w : World) : Nums w w.heap.size (.slice none 0 0) [] := ⟨⟨rfl, .inl ⟨rfl, rfl⟩⟩, Nat.le_refl _⟩
theorem Nums.keeps {w w' : World} {base : Nat} {v : Value} {L : List Nat} {S : Nat → Prop} (h : Nums w base v L) (k : Keeps S w w') (hs : ∀ g, v.ownBlock = some g → ¬ S g) : Nums w' base v L :=
  ⟨own_keeps h.own k hs, Nat.le_trans h.base k.size⟩
theorem Nums.push {w w0 : World} {v : Value} {L : List Nat} (h : Nums w w0.heap.size v L) (k : Keeps (fun _ => False) w0 w) (n : Nat) (hb : L.length ≤ 1048576) :
    ∃ v' w', (Builtin.append_ #[22, 22] 22 #[v, .slice (some ⟨w.heap.size, 0, none⟩) 1 1]).run Tryz.prog (w.alloc (.cells #[.int .u64 (n : Int)] 40)) = .ok v' w' ∧ Nums w' w0.heap.size v' (L ++ [n]) ∧ Keeps (fun _ => False) w0 w' := by
  obtain ⟨v', w', h1, h2, h3⟩ := own_push1 (P := Tryz.prog) w w0.heap.size 22 22 40 _ 1 8 Tryz.underlying22 info_u64 rfl (by decide) v L.length _ h.own [.int .u64 (n : Int)] rfl (by simp [Value.oneCell']) (by omega) (by decide) h.base
  exact ⟨v', w', h1, ⟨by simpa using h2, Nat.le_trans h.base h3.keeps.size⟩, kept_grew h3 k (fun g e => (own_block h.own e).2)⟩
/-- What words answers. -/
def WPost (most : Nat) (word s : List UInt8) (w : World) (e : Ending) (w' : World) : Prop := match wordsM most word s with
  | some L => ∃ v, e = .returned (.tuple #[v, .bool true]) ∧ Nums w' w.heap.size v L
  | none => e = .returned (.tuple #[.slice none 0 0, .bool false])

set_option maxRecDepth 100000 in
set_option maxHeartbeats 20000000 in
theorem rwords_any (most : Nat) (M : Int) (HNU : Hid (∀ (x : List UInt8) (X : World), x.length ≤ 140737488355328 → Calls Tryz.prog 49 #[.string ⟨x.toArray⟩, .int .u64 M] X fun e w' => NumPost most x e ∧ w' = X)) (word s : List UInt8) (hs : s.length ≤ 20000) (hwd : word.length ≤ 20000) (w : World) :
    Calls Tryz.prog 29 #[.string ⟨s.toArray⟩, .string ⟨word.toArray⟩, .int .u64 M] w fun e w' => WPost most word s w e w' ∧ Keeps (fun _ => False) w w' := by
  have HBAD : Hid (wordsM most word s = none → ∀ W, WPost most word s w (.returned (.tuple #[.slice none 0 0, .bool false])) W) := fun q W => by unfold WPost; rw [q]
  have HOK : Hid (∀ L v W, wordsM most word s = some L → Nums W w.heap.size v L → WPost most word s w (.returned (.tuple #[v, .bool true])) W) := fun L v W q h => by unfold WPost; rw [q]; exact ⟨v, rfl, h⟩
  have hsz := size_of s
  have hsw := size_of word
  have k0 := Keeps.refl (fun _ => False) w
  by_cases h1 : word.length < s.length
  · have h1i : ¬ (s.length : Int) ≤ word.length := by omega
    have h2i : (word.length : Int) ≤ s.length := by omega
    obtain ⟨hd, hhd⟩ : ∃ x, x = s.take word.length := ⟨_, rfl⟩
    have hcut : (⟨s.toArray⟩ : ByteArray).extract 0 word.length = ⟨hd.toArray⟩ := by rw [cut_str, hhd]; simp
    by_cases h2 : hd = word
    · obtain ⟨rest, hrest⟩ : ∃ x, x = s.drop word.length := ⟨_, rfl⟩
      have hcut2 : (⟨s.toArray⟩ : ByteArray).extract word.length s.length = ⟨rest.toArray⟩ := by rw [cut_str, hrest, List.take_of_length_le (by simp)]
      have HW : Hid (wordsM most word s = numsG most rest) := by unfold Hid wordsM; rw [if_pos ⟨h1, by rw [← hhd]; exact h2⟩, hrest]
      have hrl : rest.length ≤ 20000 := by rw [hrest]; simp; omega
      have hbe : (ByteArray.toList ⟨hd.toArray⟩ == word) = true := by rw [h2]; simp
      rw [h2] at hcut
      clear hhd hrest h2 hbe
      go_enter Tryz.func29, Tryz.ntmps29
      go_wp2_with fail
      go_loopw [0, 8] (fun a0 a8 wr => ∃ (q : List UInt8) (vo : Value) (L : List Nat), a0 = .string ⟨q.toArray⟩ ∧ vo = a8 ∧ q.length + L.length ≤ 20000 ∧ Hid (Nums wr w.heap.size vo L ∧ Keeps (fun _ => False) w wr ∧ wordsM most word s = (numsG most q).map (L ++ ·))) (fun a0 _ _ => strLen a0)
      case atStart => exact ⟨rest, _, [], rfl, rfl, by simpa using hrl, ⟨Nums.nil w, k0, by rw [HW.out]; simp⟩⟩
      case round =>
        obtain ⟨q, vo, L, rfl, rfl, hql, hh⟩ := hrel
        have hqs := size_of q
        clear HW hcut hcut2 hsz hsw
        by_cases h0 : q = []
        · subst h0
          obtain ⟨q1, q2, q3⟩ := hh.out
          have hR := HOK.out L vo wr (by rw [q3]; simp [numsG]) q1
          clear HBAD HOK hh q1 q3 HNU
          go_wp2_with fail
          go_ret2
          exact ⟨hR, q2⟩
        · have hem : q.isEmpty = false := by cases q; exact absurd rfl h0; rfl
          have hemp : (ByteArray.toList ⟨q.toArray⟩ == []) = false := by simpa using h0
          have hemp' : (ByteArray.toList ⟨q.toArray⟩ != []) = true := by simpa using h0
          have hpos := List.length_pos_iff.2 h0
          have hb0 : (0 : Nat) < (⟨q.toArray⟩ : ByteArray).size := by omega
          have hat : ((⟨q.toArray⟩ : ByteArray)[0]'hb0).toNat = (q[0]).toNat := rfl
          have hpi : (0 : Int) < q.length := by omega
          by_cases hc : q[0] = 32
          · rw [hc, show (32 : UInt8).toNat = 32 from rfl] at hat
            have HC : Hid (q[0] = 32) := hc
            clear hc
            go_wp2_with fail
            go_loopw [9] (fun a9 wt => ∃ t : Nat, a9 = .int .i64 (t : Int) ∧ 1 ≤ t ∧ t ≤ q.length ∧ wt = wr ∧ Hid (∀ j (hj : j < q.length), 1 ≤ j → j < t → q[j] ≠ 32)) (fun a9 _ => q.length - (intOf a9).toNat)
            case atStart => exact ⟨1, rfl, Nat.le_refl _, by omega, rfl, fun j _ h1 h2 => absurd h1 (by omega)⟩
            case round =>
              obtain ⟨t, rfl, ht1, ht2, rfl, hq⟩ := hrel
              by_cases htl : t < q.length
              · have hti : (t : Int) < q.length := by omega
                have htb : t < (⟨q.toArray⟩ : ByteArray).size := by rw [hqs]; exact htl
                have hat2 : ((⟨q.toArray⟩ : ByteArray)[t]'htb).toNat = (q[t]).toNat := rfl
                by_cases hc2 : q[t] = 32
                · have HJ : Hid (∀ h : t < q.length, q[t] = 32) := fun _ => hc2
                  rw [hc2, show (32 : UInt8).toNat = 32 from rfl] at hat2
                  clear hc2
                  obtain ⟨x, hx⟩ : ∃ x, x = (q.drop 1).take (t - 1) := ⟨_, rfl⟩
                  have hcx : (⟨q.toArray⟩ : ByteArray).extract 1 t = ⟨x.toArray⟩ := by rw [cut_str, hx]
                  obtain ⟨y, hy⟩ : ∃ y, y = q.drop t := ⟨_, rfl⟩
                  have hcy : (⟨q.toArray⟩ : ByteArray).extract t q.length = ⟨y.toArray⟩ := by rw [cut_str, hy, List.take_of_length_le (by simp)]
                  have hyl : y.length + t = q.length := by rw [hy]; simp; omega
                  have hxl : x.length ≤ 20000 := by rw [hx]; simp; omega
                  have HST : Hid (numsG most q = (numM most x).bind fun n => (numsG most y).map (n :: ·)) := by unfold Hid; rw [hx, hy]; exact numsG_step hpos HC.out ht1 ht2 hq.out HJ.out
                  have NU := HNU.out x wr (by omega)
                  unfold NumPost at NU
                  have h1t : (1 : Int) ≤ t := by omega
                  have htq : (t : Int) ≤ q.length := by omega
                  clear hx hy HC hq HJ HNU
                  obtain ⟨q1, q2, q3⟩ := hh.out
                  cases hnu : numM most x with
                  | none =>
                    rw [hnu] at NU HST
                    dsimp only at NU
                    have hR := HBAD.out (by rw [q3, HST.out]; rfl) wr
                    clear HBAD HOK hh q1 q3 HST
                    go_wp2_with fail
                    refine NU.mono ?_
                    rintro e w3 ⟨rfl, hw3⟩
                    replace hw3 := hw3.symm
                    subst hw3
                    clear NU
                    go_wp2_with fail
                    go_ret2
                    exact ⟨hR, q2⟩
                  | some n =>
                    rw [hnu] at NU HST
                    dsimp only at NU
                    obtain ⟨v2, w4, hrun, hnn, kn⟩ := q1.push q2 n (by omega)
                    have HR : Hid (_ = _) := hrun
                    have fin : Hid (Nums w4 w.heap.size v2 (L ++ [n]) ∧ Keeps (fun _ => False) w w4 ∧ wordsM most word s = (numsG most y).map ((L ++ [n]) ++ ·)) := ⟨hnn, kn, by
                      rw [q3, HST.out, Option.bind_some, Option.map_map]
                      congr 1
                      funext z
                      simp⟩
                    clear HBAD HOK hh q1 q2 q3 HST hrun hnn kn
                    go_wp2_with fail
                    refine NU.mono ?_
                    rintro e w3 ⟨rfl, hw3⟩
                    replace hw3 := hw3.symm
                    subst hw3
                    clear NU
                    go_wp2_with (at_builtin; refine wpList_append_run rfl _ _ 22 rfl rfl rfl HR.out ?_)
                    go_roundw
                    · exact ⟨y, _, _, by first | rfl | simp, rfl, by simp; omega, fin⟩
                    · simp [strLen, ByteArray.size]; omega
                · have hcn : (q[t]).toNat ≠ 32 := fun h => hc2 (UInt8.toNat.inj (by rw [h]; rfl))
                  have hn : Hid (∀ j (hj : j < q.length), 1 ≤ j → j < t + 1 → q[j] ≠ 32) := fun j hj h1 h2 => by
                    by_cases hjt : j = t
                    · subst hjt; exact hc2
                    · exact hq.out j hj h1 (by omega)
                  generalize (q[t]).toNat = x at *
                  have hbe : ((x : Int) != 32) = true := by simp; omega
                  clear hh HBAD HOK hq hc2 HNU
                  go_wp2_with fail
                  go_roundw
                  · exact ⟨t + 1, by simp, by omega, by omega, by first | rfl | trivial, hn⟩
                  · simp [intOf]; omega
              · have hti : ¬ (t : Int) < q.length := by omega
                have HJ : Hid (∀ h : t < q.length, q[t] = 32) := fun h => absurd h htl
                obtain ⟨x, hx⟩ : ∃ x, x = (q.drop 1).take (t - 1) := ⟨_, rfl⟩
                have hcx : (⟨q.toArray⟩ : ByteArray).extract 1 t = ⟨x.toArray⟩ := by rw [cut_str, hx]
                obtain ⟨y, hy⟩ : ∃ y, y = q.drop t := ⟨_, rfl⟩
                have hcy : (⟨q.toArray⟩ : ByteArray).extract t q.length = ⟨y.toArray⟩ := by rw [cut_str, hy, List.take_of_length_le (by simp)]
                have hyl : y.length + t = q.length := by rw [hy]; simp; omega
                have hxl : x.length ≤ 20000 := by rw [hx]; simp; omega
                have HST : Hid (numsG most q = (numM most x).bind fun n => (numsG most y).map (n :: ·)) := by unfold Hid; rw [hx, hy]; exact numsG_step hpos HC.out ht1 ht2 hq.out HJ.out
                have NU := HNU.out x wr (by omega)
                unfold NumPost at NU
                have h1t : (1 : Int) ≤ t := by omega
                have htq : (t : Int) ≤ q.length := by omega
                clear hx hy HC hq HJ HNU
                obtain ⟨q1, q2, q3⟩ := hh.out
                cases hnu : numM most x with
                | none =>
                  rw [hnu] at NU HST
                  dsimp only at NU
                  have hR := HBAD.out (by rw [q3, HST.out]; rfl) wr
                  clear HBAD HOK hh q1 q3 HST
                  go_wp2_with fail
                  refine NU.mono ?_
                  rintro e w3 ⟨rfl, hw3⟩
                  replace hw3 := hw3.symm
                  subst hw3
                  clear NU
                  go_wp2_with fail
                  go_ret2
                  exact ⟨hR, q2⟩
                | some n =>
                  rw [hnu] at NU HST
                  dsimp only at NU
                  obtain ⟨v2, w4, hrun, hnn, kn⟩ := q1.push q2 n (by omega)
                  have HR : Hid (_ = _) := hrun
                  have fin : Hid (Nums w4 w.heap.size v2 (L ++ [n]) ∧ Keeps (fun _ => False) w w4 ∧ wordsM most word s = (numsG most y).map ((L ++ [n]) ++ ·)) := ⟨hnn, kn, by
                    rw [q3, HST.out, Option.bind_some, Option.map_map]
                    congr 1
                    funext z
                    simp⟩
                  clear HBAD HOK hh q1 q2 q3 HST hrun hnn kn
                  go_wp2_with fail
                  refine NU.mono ?_
                  rintro e w3 ⟨rfl, hw3⟩
                  replace hw3 := hw3.symm
                  subst hw3
                  clear NU
                  go_wp2_with (at_builtin; refine wpList_append_run rfl _ _ 22 rfl rfl rfl HR.out ?_)
                  go_roundw
                  · exact ⟨y, _, _, by first | rfl | simp, rfl, by simp; omega, fin⟩
                  · simp [strLen, ByteArray.size]; omega
          · have hcn : (q[0]).toNat ≠ 32 := fun h => hc (UInt8.toNat.inj (by rw [h]; rfl))
            obtain ⟨q1, q2, q3⟩ := hh.out
            have hR := HBAD.out (by rw [q3, numsG_bad hpos hc]; rfl) wr
            generalize (q[0]).toNat = x at *
            have hbe : ((x : Int) != 32) = true := by simp; omega
            clear HBAD HOK hh q1 q3 hc HNU
            go_wp2_with fail
            go_ret2
            exact ⟨hR, q2⟩
    · have hR := HBAD.out (by unfold wordsM; rw [if_neg]; rintro ⟨_, q⟩; exact h2 (by rw [hhd]; exact q)) w
      have hbe : (ByteArray.toList ⟨hd.toArray⟩ == word) = false := by simpa using h2
      clear HBAD HOK HNU hhd h2
      generalize hd.toArray = hq at *
      go_enter Tryz.func29, Tryz.ntmps29
      go_wp2_with fail
      go_ret2
      exact ⟨hR, k0⟩
  · have h1i : (s.length : Int) ≤ word.length := by omega
    have hR := HBAD.out (by unfold wordsM; rw [if_neg]; rintro ⟨q, _⟩; exact h1 q) w
    clear HBAD HOK HNU
    go_enter Tryz.func29, Tryz.ntmps29
    go_wp2_with fail
    go_ret2
    exact ⟨hR, k0⟩
end Go.Proofs.YtppejcfghlpbjaaGreatDoor


/- An instruction of just its text, as the document reads it (package parleyref09: one). No statement of the seat is proved here. -/
namespace Go.Proofs.YtppejcfghlpbjaaGreatDoor
open Go.RowKit Go.Shelf

/-- Where there are no tabs and no blank too many, the words between blanks are the pieces. -/
theorem bparts_pcs : ∀ (t w h : List UInt8) (ws : List (List UInt8)), pcs t = h :: ws → (∀ c ∈ t, c ≠ 9) → w ++ h ≠ [] → (∀ x ∈ ws, x ≠ []) → bparts w t = (w ++ h) :: ws
  | [], w, h, ws, e, _, hne, _ => by
    simp [pcs] at e
    obtain ⟨rfl, rfl⟩ := e
    rw [bparts, if_neg (by simpa using hne), List.append_nil]
  | c :: t, w, h, ws, e, h9, hne, hw => by
    have h9' : ∀ d ∈ t, d ≠ 9 := fun d hd => h9 d (by simp [hd])
    obtain ⟨h', ws', hp⟩ : ∃ h ws, pcs t = h :: ws := by
      cases hq : pcs t with
      | nil => exact absurd hq (pcs_ne t)
      | cons h ws => exact ⟨h, ws, rfl⟩
    rw [pcs] at e
    by_cases hc : c = 32
    · rw [if_pos hc, hp] at e
      obtain ⟨rfl, rfl⟩ := List.cons.inj e
      have hb : blk c = true := by simp [blk, hc]
      rw [bparts, if_pos hb, if_neg (by simpa using hne), bparts_pcs t [] h' ws' hp h9' (by simpa using hw h' (by simp)) (fun x hx => hw x (by simp [hx]))]
      simp
    · rw [if_neg hc, hp] at e
      dsimp only at e
      obtain ⟨rfl, rfl⟩ := List.cons.inj e
      have hb : blk c = false := by
        have := h9 c (by simp)
        simp [blk, hc, this]
      rw [bparts, if_neg (by simp [hb]), bparts_pcs t (w ++ [c]) h' ws' hp h9' (by simp) hw]
      simp
theorem nms_no9 : ∀ k : Fin 18, (9 : UInt8) ∉ (nms[k.val]?).getD [] := by decide
theorem nms_ne : ∀ k : Fin 18, 1 ≤ k.val → (nms[k.val]?).getD [] ≠ [] := by decide
theorem blanked_no9 : ∀ (N : List Int), (9 : UInt8) ∉ blanked N
  | [] => by simp [blanked]
  | n :: N => by
    have e : blanked (n :: N) = 32 :: Lib.decDigits n.toNat ++ blanked N := by simp [blanked]
    rw [e]
    intro h
    simp only [List.cons_append, List.mem_cons, List.mem_append] at h
    rcases h with h | h | h
    · cases h
    · have := dec_mem n.toNat 9 h; simp at this
    · exact blanked_no9 N h
theorem dec_nolab2 (n : Nat) : labB (Lib.decDigits n) = false := by
  cases h : Lib.decDigits n with
  | nil => exact absurd h (dec_ne n)
  | cons c t =>
    have := dec_mem n c (by rw [h]; simp)
    unfold labB
    have hl : lowB c = false := by simp [lowB]; omega
    simp [hl]
theorem named_nolab {h : List UInt8} {k : Nat} (hn : namedN h = some k) : labB h = false := by simp [labB, hn]
/-- What the program reads of a line the document finds among its parts. -/
theorem one_yes {s : List UInt8} {i : I5} (h : parseL s = some i) : bparts [] s ≠ [] ∧ parseW (zeroed (bparts [] s)) = some i ∧ usesB (bparts [] s) = false := by
  obtain ⟨hf, ht, _, _⟩ := text_parse h
  obtain ⟨⟨h0, h1⟩, -⟩ := formed_facts hf
  have hnb := nms_noblank ⟨i.op.toNat, by omega⟩
  have hp : pcs s = (nms[i.op.toNat]?).getD [] :: (numL i).map fun n => Lib.decDigits n.toNat := by rw [← ht]; exact pcs_text _ _ hnb
  have h9 : ∀ c ∈ s, c ≠ 9 := fun c hc e => by
    subst e
    rw [← ht] at hc
    unfold textL at hc
    rcases List.mem_append.1 hc with hc | hc
    · exact nms_no9 ⟨i.op.toNat, by omega⟩ hc
    · exact blanked_no9 _ hc
  have hb := bparts_pcs s [] _ _ hp h9 (by simpa using nms_ne ⟨i.op.toNat, by omega⟩ (by show 1 ≤ i.op.toNat; omega)) (fun x hx => by
    obtain ⟨n, _, rfl⟩ := List.mem_map.1 hx
    exact dec_ne _)
  rw [List.nil_append, ← hp] at hb
  have hu : usesB (pcs s) = false := by
    unfold usesB
    have : labB (lastW (pcs s)) = false := by
      rw [hp]
      unfold lastW
      cases hN : (numL i).reverse with
      | nil =>
        have : numL i = [] := by simpa using hN
        rw [this]
        simp only [List.map_nil, List.getLast?_singleton, Option.getD_some]
        exact named_nolab (k := i.op.toNat) (namedN_yes (by omega) (by omega) rfl)
      | cons n N =>
        have : numL i = N.reverse ++ [n] := by
          have := congrArg List.reverse hN
          simpa using this
        rw [this]
        simp only [List.map_append, List.map_cons, List.map_nil]
        rw [← List.cons_append, List.getLast?_append, List.getLast?_singleton, Option.some_or, Option.getD_some]
        exact dec_nolab2 _
    rw [this, Bool.and_false]
  rw [hb]
  refine ⟨by rw [hp]; simp, ?_, hu⟩
  unfold zeroed
  rw [hu, if_neg (by simp), ← parseL_eq]
  exact h
theorem one_back {s : List UInt8} {i : I5} (hu : usesB (bparts [] s) = false) (h : parseW (zeroed (bparts [] s)) = some i) (ht : textL i = s) : parseL s = some i := by
  have hz : zeroed (bparts [] s) = bparts [] s := by unfold zeroed; rw [hu, if_neg (by simp)]
  rw [hz] at h
  obtain ⟨h1, _, h3, h4⟩ := parseW_facts h (bparts_no32 s [] (by simp))
  rw [← ht]
  exact parse_text h1 h3 h4
theorem one_no {s : List UInt8} {i : I5} (h : parseW (zeroed (bparts [] s)) = some i) (ht : textL i ≠ s) : parseL s = none := by
  cases hp : parseL s with
  | none => rfl
  | some j =>
    obtain ⟨_, h2, _⟩ := one_yes hp
    rw [h] at h2
    cases h2
    exact absurd (text_parse hp).2.1 ht
/-- What one answers. -/
def O9Post (s : List UInt8) (e : Ending) : Prop := match parseL s with
  | some i => e = .returned (.tuple #[.agg i.cells, .bool true])
  | none => e = .returned (.tuple #[.agg #[.int .i64 0, .int .i64 0, .int .i64 0, .int .i64 0, .int .u64 0], .bool false])
theorem results_cell_tmp1 {fn : Func} {p u : Tmp} {ty : TypeId} (h : fn.results = #[.cell p ty, .tmp u]) (tmps : Array Value) (P : Program) (w : World) :
    (results fn tmps).run P w = ((asAddr (tmps.getD p undef)).run P w).andThen fun a w₁ => ((loadVar ty a).run P w₁).andThen fun x w₂ => .ok (.tuple #[x, tmps.getD u undef]) w₂ := by
  simp only [results, h]
  simp [Sem.run_bind, Result.andThen]
theorem ins_ret2' {fn : Func} {p u : Tmp} (h : fn.results = #[.cell p 45, .tmp u]) (tmps : Array Value) (w : World) (b : Nat) (old cs : Array Value) (hb : w.heap[b]? = some (.cells old 45 (0, 0))) (hs : cs.size = 5)
    (hp : tmps.getD p undef = .pointer (some ⟨b, 0, none⟩)) : (results fn tmps).run Tryz.prog (w.setRow b cs) = .ok (.tuple #[.agg cs, tmps.getD u undef]) (w.setRow b cs) := by
  rw [results_cell_tmp1 h, hp]
  simp [asAddr, run_loadVar_row (w.setRow b cs) b 45 45 cs (0, 0) _ (setRow_heap w b old cs _ _ hb) Tryz.underlying45 rfl (by rw [size_ins, hs]), Result.andThen]

set_option maxRecDepth 100000 in
set_option maxHeartbeats 20000000 in
theorem rone9_any (s : List UInt8) (hs : s.length ≤ 20000) (w : World) : Calls Tryz.prog 30 #[.string ⟨s.toArray⟩] w fun e w' => O9Post s e ∧ Keeps (fun _ => False) w w' := by
  have HBAD : Hid (parseL s = none → O9Post s (.returned (.tuple #[.agg #[.int .i64 0, .int .i64 0, .int .i64 0, .int .i64 0, .int .u64 0], .bool false]))) := fun q => by unfold O9Post; rw [q]
  have HOK : Hid (∀ i, parseL s = some i → O9Post s (.returned (.tuple #[.agg i.cells, .bool true]))) := fun i q => by unfold O9Post; rw [q]
  have PT := rparts_any s (by omega)
  have kA := (Keeps.refl (fun _ => False) w).alloc (.cells #[.int .i64 0, .int .i64 0, .int .i64 0, .int .i64 0, .int .u64 0] 45)
  have bA := alloc_block w (.cells #[.int .i64 0, .int .i64 0, .int .i64 0, .int .i64 0, .int .u64 0] 45)
  have HBP : Hid (∀ x ∈ bparts [] s, x.length ≤ 20000) := fun x hx => bparts_each s [] 20000 (by simp; omega) x hx
  have H32 : Hid (∀ x ∈ bparts [] s, (32 : UInt8) ∉ x) := bparts_no32 s [] (by simp)
  have HY : Hid (∀ i, parseL s = some i → bparts [] s ≠ [] ∧ parseW (zeroed (bparts [] s)) = some i ∧ usesB (bparts [] s) = false) := fun i q => one_yes q
  have HBK : Hid (∀ i, usesB (bparts [] s) = false → parseW (zeroed (bparts [] s)) = some i → textL i = s → parseL s = some i) := fun i a b c => one_back a b c
  have HNO : Hid (∀ i, parseW (zeroed (bparts [] s)) = some i → textL i ≠ s → parseL s = none) := fun i a b => one_no a b
  obtain ⟨P, hP⟩ : ∃ P, P = bparts [] s := ⟨_, rfl⟩
  rw [← hP] at PT HBP H32 HY HBK HNO
  clear hP
  go_enter Tryz.func30, Tryz.ntmps30
  go_wp2_with fail
  refine (PT _).mono ?_
  rintro e w1 ⟨vo, rfl, hst, k1⟩
  have b1 : w1.heap[w.heap.size]? = some (.cells #[.int .i64 0, .int .i64 0, .int .i64 0, .int .i64 0, .int .u64 0] 45 (0, 0)) := (k1.block _ (lt_of_block bA) (fun f => f)).trans bA
  have kk1 := kA.trans k1
  clear PT kA bA k1
  have HPN : Hid (∀ (h : parseL s ≠ none), ∃ i, parseL s = some i) := fun h => by
    cases hq : parseL s with
    | none => exact absurd hq h
    | some i => exact ⟨i, rfl⟩
  have HNN : Hid ((∀ i, parseL s ≠ some i) → parseL s = none) := fun h => by
    cases hq : parseL s with
    | none => rfl
    | some i => exact absurd hq (h i)
  cases P with
  | nil =>
    obtain ⟨ua, uc, rfl⟩ := hst.shape
    have hR := HBAD.out (HNN.out (fun i q => (HY.out i q).1 rfl))
    have kz := kk1.row (Nat.le_refl w.heap.size) #[.int .i64 0, .int .i64 0, .int .i64 0, .int .i64 0, .int .u64 0]
    have BZ : Hid (_ = _) := b1
    clear HBAD HOK HBP H32 HY HBK HNO HPN HNN hst b1 kk1
    go_wp2_with (refine wpList_store_row' rfl 45 _ _ rfl w.heap.size _ rfl rfl 45 _ BZ.out size_ins rfl (by simp [Value.oneCell']) ?_)
    refine bodyPost_ret (ins_ret2' rfl _ _ w.heap.size _ _ BZ.out rfl rfl) rfl ?_
    exact ⟨hR, kz⟩
  | cons h ws =>
    have IN := rinstr_any h ws (fun x hx => by have := HBP.out x (by simp [hx]); omega) _ vo w1 hst
    have HLL : Hid (usesB (h :: ws) = true → lastW (h :: ws) ≠ []) := fun hu => by
      simp only [usesB, Bool.and_eq_true] at hu
      exact labB_ne hu.2
    have HPF : Hid (∀ i, usesB (h :: ws) = false → parseW (zeroed (h :: ws)) = some i → formedB i = true ∧ 0 ≤ i.n ∧ i.n < 18446744073709551616) := fun i hu q => by
      have hz : zeroed (h :: ws) = h :: ws := by unfold zeroed; rw [hu, if_neg (by simp)]
      rw [hz] at q
      obtain ⟨q1, _, q3, q4⟩ := parseW_facts q H32.out
      exact ⟨q1, q3, q4⟩
    obtain ⟨ua, uc, rfl⟩ := hst.shape
    obtain ⟨PL, hPL⟩ : ∃ m, m = (h :: ws).length := ⟨_, rfl⟩
    rw [← hPL] at IN ⊢
    have hPLz : ((PL : Int) == 0) = false := by rw [hPL]; simp; omega
    have hPLp' : PL ≠ 0 := by rw [hPL]; simp
    unfold IPost at IN
    obtain ⟨pw, hpw⟩ : ∃ pw, pw = parseW (zeroed (h :: ws)) := ⟨_, rfl⟩
    obtain ⟨ub, hub⟩ : ∃ ub, ub = usesB (h :: ws) := ⟨_, rfl⟩
    obtain ⟨lw, hlw⟩ : ∃ lw, lw = lastW (h :: ws) := ⟨_, rfl⟩
    rw [← hpw, ← hub, ← hlw] at IN
    rw [← hpw, ← hub] at HY HPF
    rw [← hub, ← hpw] at HBK
    rw [← hpw] at HNO
    rw [← hub, ← hlw] at HLL
    clear hPL hpw hub hlw hst HBP H32
    cases pw with
    | none =>
      dsimp only at IN
      have hR := HBAD.out (HNN.out (fun i q => by have := (HY.out i q).2.1; cases this))
      clear HBAD HOK HY HBK HNO HPN HNN HLL HPF
      go_wp2_with fail
      refine IN.mono ?_
      rintro e w2 ⟨⟨⟨op, a, b, c, N⟩, nx, rfl⟩, k2⟩
      clear IN
      have b2 := ((MapKept.heap_alloc w2 (.cells #[.int .i64 op, .int .i64 a, .int .i64 b, .int .i64 c, .int .u64 N] 45)).2 _ (lt_of_block ((k2.block _ (lt_of_block b1) (fun f => f)).trans b1))).trans ((k2.block _ (lt_of_block b1) (fun f => f)).trans b1)
      have kz := ((kk1.trans k2).alloc (.cells #[.int .i64 op, .int .i64 a, .int .i64 b, .int .i64 c, .int .u64 N] 45)).row (Nat.le_refl w.heap.size) #[.int .i64 0, .int .i64 0, .int .i64 0, .int .i64 0, .int .u64 0]
      have BZ : Hid (_ = _) := b2
      clear b1 b2 kk1 k2
      dsimp only [I5.cells]
      go_wp2_with (refine wpList_store_row' rfl 45 _ _ rfl w.heap.size _ rfl rfl 45 _ BZ.out size_ins rfl (by simp [Value.oneCell']) ?_)
      refine bodyPost_ret (ins_ret2' rfl _ _ w.heap.size _ _ BZ.out rfl rfl) rfl ?_
      exact ⟨hR, kz⟩
    | some i =>
      dsimp only at IN
      cases ub with
      | true =>
        simp only [if_true] at IN
        have hR := HBAD.out (HNN.out (fun i q => by have := (HY.out i q).2.2; cases this))
        have hlne := HLL.out rfl
        have hem : lw.isEmpty = false := by cases lw; exact absurd rfl hlne; rfl
        have hemp : (ByteArray.toList ⟨lw.toArray⟩ == []) = false := by simpa using hlne
        have hemp' : (ByteArray.toList ⟨lw.toArray⟩ != []) = true := by simpa using hlne
        obtain ⟨op, a, b, c, N⟩ := i
        clear HBAD HOK HY HBK HNO HPN HNN HLL HPF
        go_wp2_with fail
        refine IN.mono ?_
        rintro e w2 ⟨rfl, k2⟩
        clear IN
        have b2 := ((MapKept.heap_alloc w2 (.cells #[.int .i64 op, .int .i64 a, .int .i64 b, .int .i64 c, .int .u64 N] 45)).2 _ (lt_of_block ((k2.block _ (lt_of_block b1) (fun f => f)).trans b1))).trans ((k2.block _ (lt_of_block b1) (fun f => f)).trans b1)
        have kz := ((kk1.trans k2).alloc (.cells #[.int .i64 op, .int .i64 a, .int .i64 b, .int .i64 c, .int .u64 N] 45)).row (Nat.le_refl w.heap.size) #[.int .i64 0, .int .i64 0, .int .i64 0, .int .i64 0, .int .u64 0]
        have BZ : Hid (_ = _) := b2
        clear b1 b2 kk1 k2
        dsimp only [I5.cells]
        go_wp2_with (refine wpList_store_row' rfl 45 _ _ rfl w.heap.size _ rfl rfl 45 _ BZ.out size_ins rfl (by simp [Value.oneCell']) ?_)
        refine bodyPost_ret (ins_ret2' rfl _ _ w.heap.size _ _ BZ.out rfl rfl) rfl ?_
        exact ⟨hR, kz⟩
      | false =>
        simp only [Bool.false_eq_true, if_false] at IN
        obtain ⟨hf, hn0, hn1⟩ := HPF.out i rfl rfl
        have LN := rLine_any i hf hn0 hn1
        have HBK2 : Hid (textL i = s → parseL s = some i) := fun q => HBK.out i rfl rfl q
        have HNO2 : Hid (textL i ≠ s → parseL s = none) := fun q => HNO.out i rfl q
        obtain ⟨op, a, b, c, N⟩ := i
        obtain ⟨T, hT⟩ : ∃ T, T = textL ⟨op, a, b, c, N⟩ := ⟨_, rfl⟩
        rw [← hT] at LN HBK2 HNO2
        clear HY HBK HNO HPN HNN HLL HPF hf hn0 hn1 hT
        go_wp2_with fail
        refine IN.mono ?_
        rintro e w2 ⟨rfl, k2⟩
        clear IN
        have kX := k2.alloc (.cells #[.int .i64 op, .int .i64 a, .int .i64 b, .int .i64 c, .int .u64 N] 45)
        have bI := alloc_block w2 (.cells #[.int .i64 op, .int .i64 a, .int .i64 b, .int .i64 c, .int .u64 N] 45)
        have hs2 : w.heap.size < w2.heap.size := Nat.lt_of_lt_of_le (lt_of_block b1) k2.size
        have kY := kk1.trans kX
        have b2 := (kX.block _ (lt_of_block b1) (fun f => f)).trans b1
        clear b1 kk1 k2 kX
        dsimp only [I5.cells] at LN ⊢
        go_wp2_with fail
        refine (LN _).mono ?_
        rintro e w3 ⟨rfl, k3⟩
        clear LN
        have bI3 := (k3.block _ (lt_of_block bI) (fun f => f)).trans bI
        have bZ3 := (k3.block _ (lt_of_block b2) (fun f => f)).trans b2
        have kZ3 := kY.trans k3
        have BI : Hid (_ = _) := bI3
        have BZ : Hid (_ = _) := bZ3
        by_cases hTs : T = s
        · have hR := HOK.out _ (HBK2.out hTs)
          have kz := kZ3.row (Nat.le_refl w.heap.size) #[.int .i64 op, .int .i64 a, .int .i64 b, .int .i64 c, .int .u64 N]
          have hbe : (ByteArray.toList ⟨T.toArray⟩ == s) = true := by rw [hTs]; simp
          rw [hTs]
          clear HBAD HOK HBK2 HNO2 bI bI3 b2 bZ3 kY k3 hTs
          go_wp2_with (first
            | (refine wpList_load_row rfl 45 _ rfl w2.heap.size rfl 45 _ (0, 0) _ BI.out Tryz.underlying45 rfl (by rw [size_ins]; rfl) ?_)
            | (refine wpList_store_row' rfl 45 _ _ rfl w.heap.size _ rfl rfl 45 _ BZ.out size_ins rfl (by simp [Value.oneCell']) ?_))
          refine bodyPost_ret (ins_ret2' rfl _ _ w.heap.size _ _ BZ.out rfl rfl) rfl ?_
          exact ⟨hR, kz⟩
        · have hR := HBAD.out (HNO2.out hTs)
          have kz := kZ3.row (Nat.le_refl w.heap.size) #[.int .i64 0, .int .i64 0, .int .i64 0, .int .i64 0, .int .u64 0]
          have hbe : (ByteArray.toList ⟨T.toArray⟩ == s) = false := by simpa using hTs
          generalize T.toArray = TA at *
          clear HBAD HOK HBK2 HNO2 bI bI3 b2 bZ3 kY k3 hTs
          go_wp2_with (refine wpList_store_row' rfl 45 _ _ rfl w.heap.size _ rfl rfl 45 _ BZ.out size_ins rfl (by simp [Value.oneCell']) ?_)
          refine bodyPost_ret (ins_ret2' rfl _ _ w.heap.size _ _ BZ.out rfl rfl) rfl ?_
          exact ⟨hR, kz⟩
end Go.Proofs.YtppejcfghlpbjaaGreatDoor


/- A script's text read line by line: pure; the script that is read, as it lies. No statement of the seat is proved here. -/
namespace Go.Proofs.YtppejcfghlpbjaaGreatDoor
open Go.RowKit Go.Shelf

structure Sc where
  cells : Nat
  first : List Nat
  progs : List (List I5)
  picks : List Nat
def m63 : Nat := 9223372036854775807
def m64 : Nat := 18446744073709551615
def m32 : Nat := 4294967295
def cellsW : List UInt8 := [99, 101, 108, 108, 115]
def firstW : List UInt8 := [102, 105, 114, 115, 116]
def picksW : List UInt8 := [112, 105, 99, 107, 115]
def threadW : List UInt8 := [116, 104, 114, 101, 97, 100]
def lastPush (ps : List (List I5)) (i : I5) : List (List I5) := ps.modify (ps.length - 1) (· ++ [i])
/-- A line, by what may come. -/
def lineS (st : Nat) (x : Sc) (s : List UInt8) : Option (Nat × Sc) :=
  match (if st = 0 then wordsM m63 cellsW s else none) with
  | some [c] => some (1, { x with cells := c })
  | _ => match (if st = 1 then wordsM m64 firstW s else none) with
    | some L => some (2, { x with first := L })
    | none => if 1 ≤ st ∧ st ≤ 3 ∧ s = threadW then some (3, { x with progs := x.progs ++ [[]] }) else
      match (if 1 ≤ st ∧ st ≤ 3 then wordsM m32 picksW s else none) with
      | some L => some (4, { x with picks := x.picks ++ L })
      | none => if st = 3 then (parseL s).map fun i => (3, { x with progs := lastPush x.progs i }) else none
/-- All lines; or the number of the first that is none. -/
def readS (st : Nat) (x : Sc) (n : Nat) : List (List UInt8) → Nat × Option Sc
  | [] => if st = 0 then (n, none) else (n, some x)
  | L :: R => if L.getLast? = some 10 then match lineS st x L.dropLast with
      | none => (n, none)
      | some (st', x') => readS st' x' (n + 1) R
    else (n, none)
/-- A line: from f up to t. -/
theorem line_stepS {s : List UInt8} {f t : Nat} (hf : f < s.length) (hft : f ≤ t) (ht : t ≤ s.length) (hno : ∀ j (hj : j < s.length), f ≤ j → j < t → s[j] ≠ 10) (hend : ∀ h : t < s.length, s[t] = 10) :
    ∃ L, linesL (s.drop f) = L :: linesL (s.drop (t + 1)) ∧ (t < s.length → L.getLast? = some 10 ∧ L.dropLast = (s.drop f).take (t - f)) ∧ (t = s.length → L.getLast? ≠ some 10) := by
  have hdl : (s.drop f).length = s.length - f := by simp
  by_cases htl : t < s.length
  · have hcut := linesL_cut (s.drop f) (t - f) (by simp; omega) (fun j hj => by
      rw [List.getElem_drop]
      exact hno (f + j) (by omega) (by omega) (by omega)) (by
      rw [List.getElem_drop]
      have e1 : f + (t - f) = t := by omega
      simpa [e1] using hend htl)
    have e1 : f + (t - f) = t := by omega
    have hlast : (s.drop f).take (t - f + 1) = (s.drop f).take (t - f) ++ [10] := by
      rw [List.take_succ_eq_append_getElem (by simp; omega), List.getElem_drop]
      simp [e1, hend htl]
    refine ⟨(s.drop f).take (t - f + 1), ?_, fun _ => ⟨?_, ?_⟩, fun e => by omega⟩
    · rw [hcut, List.drop_drop]
      have e2 : f + (t - f + 1) = t + 1 := by omega
      rw [e2]
    · rw [hlast, List.getLast?_append, List.getLast?_singleton, Option.some_or]
    · rw [hlast, List.dropLast_concat]
  · obtain rfl : t = s.length := by omega
    have hmem : ∀ c ∈ s.drop f, c ≠ 10 := by
      intro c hc
      obtain ⟨k, hk, rfl⟩ := List.getElem_of_mem hc
      rw [List.length_drop] at hk
      rw [List.getElem_drop]
      exact hno (f + k) (by omega) (by omega) (by omega)
    have hne : s.drop f ≠ [] := fun h => by rw [h] at hdl; simp at hdl; omega
    refine ⟨s.drop f, ?_, fun h => by omega, fun _ h => hmem 10 (List.mem_of_getLast? h) rfl⟩
    rw [linesL_one _ hne hmem, List.drop_eq_nil_of_le (by omega : s.length ≤ s.length + 1)]
    rfl

/-- A row of small words of the call's own. -/
structure Nms32 (w : World) (base : Nat) (v : Value) (L : List Nat) : Prop where
  own : w.ownsRow base 41 1 v L.length (L.map fun (n : Nat) => Value.int .u32 (n : Int))
  base : base ≤ w.heap.size
theorem info_u32 : (Tryz.prog.info? 41).map (fun i => (i.zero, i.size, i.bytes)) = some (some (.int .u32 0), 1, 4) := by kernel_rfl
theorem info_sl : (Tryz.prog.info? 42).map (fun i => (i.zero, i.size, i.bytes)) = some (some (.slice none 0 0), 1, 24) := by kernel_rfl
/-- Younger blocks have another mark. -/
def young (n t : Nat) (tag : Nat → Nat) (g : Nat) : Nat := if n ≤ g then t else tag g
theorem young_new {n t : Nat} {tag : Nat → Nat} {g : Nat} (h : n ≤ g) : young n t tag g = t := by unfold young; rw [if_pos h]
theorem young_old {n t : Nat} {tag : Nat → Nat} {g : Nat} (h : g < n) : young n t tag g = tag g := by unfold young; rw [if_neg (by omega)]
/-- The script that is read, as it lies: its box, and its rows, told apart by their marks. -/
structure Sx (W : World) (base gx : Nat) (vf vp vk : Value) (ps : List Value) (x : Sc) : Prop where
  box : W.heap[gx]? = some (.cells #[.int .i64 (x.cells : Int), vf, vp, vk] 26 (0, 0))
  first : Nums W base vf x.first
  progs : W.ownsRow base 42 1 vp x.progs.length ps
  plen : ps.length = x.progs.length
  each : ∀ k (h1 : k < ps.length) (h2 : k < x.progs.length), Irs W base (ps[k]) (x.progs[k])
  picks : Nms32 W base vk x.picks
  wf : ∀ p ∈ x.progs, ∀ i ∈ p, i.wf
  mark : ∃ tag : Nat → Nat, tag gx = 0 ∧ (∀ g, vf.ownBlock = some g → tag g = 1) ∧ (∀ g, vp.ownBlock = some g → tag g = 2) ∧ (∀ g, vk.ownBlock = some g → tag g = 3) ∧ ∀ k (h : k < ps.length) g, (ps[k]).ownBlock = some g → tag g = 4 + k
theorem Sx.keeps {W W' : World} {base gx : Nat} {vf vp vk : Value} {ps : List Value} {x : Sc} (h : Sx W base gx vf vp vk ps x) (k : Keeps (fun _ => False) W W') : Sx W' base gx vf vp vk ps x :=
  ⟨(k.block gx (lt_of_block h.box) (fun f => f)).trans h.box, h.first.keeps k (fun _ _ f => f), own_keeps h.progs k (fun _ _ f => f), h.plen, fun j h1 h2 => (h.each j h1 h2).keeps k (fun _ _ f => f), ⟨own_keeps h.picks.own k (fun _ _ f => f), Nat.le_trans h.picks.base k.size⟩, h.wf, h.mark⟩
/-- The number of cells is laid. -/
theorem Sx.setCells {W : World} {base gx : Nat} {vf vp vk : Value} {ps : List Value} {x : Sc} (h : Sx W base gx vf vp vk ps x) (c : Nat) : Sx (W.setCell ⟨gx, 0, none⟩ (.int .i64 (c : Int))) base gx vf vp vk ps { x with cells := c } := by
  have ks : Keeps (fun k => k = gx) W (W.setCell ⟨gx, 0, none⟩ (.int .i64 (c : Int))) := (Keeps.refl (fun k => k = gx) W).setCell (p := ⟨gx, 0, none⟩) (.inr rfl) _
  obtain ⟨tag, t0, t1, t2, t3, t4⟩ := h.mark
  refine ⟨block_set h.box 0 _, h.first.keeps ks (fun g e f => by subst f; rw [t1 _ e] at t0; cases t0), own_keeps h.progs ks (fun g e f => by subst f; rw [t2 _ e] at t0; cases t0), h.plen, fun j h1 h2 => (h.each j h1 h2).keeps ks (fun g e f => by subst f; rw [t4 j h1 _ e] at t0; omega), ⟨own_keeps h.picks.own ks (fun g e f => by subst f; rw [t3 _ e] at t0; cases t0), Nat.le_trans h.picks.base ks.size⟩, h.wf, ⟨tag, t0, t1, t2, t3, t4⟩⟩
/-- The first words are laid: a row younger than all the others. -/
theorem Sx.setFirst {W0 W : World} {base gx : Nat} {vf vp vk v : Value} {ps : List Value} {x : Sc} {L : List Nat} (h : Sx W0 base gx vf vp vk ps x) (k : Keeps (fun _ => False) W0 W) (hN : Nums W W0.heap.size v L) : Sx (W.setCell ⟨gx, 1, none⟩ v) base gx v vp vk ps { x with first := L } := by
  have h' := h.keeps k
  have ks : Keeps (fun k => k = gx) W (W.setCell ⟨gx, 1, none⟩ v) := (Keeps.refl (fun k => k = gx) W).setCell (p := ⟨gx, 1, none⟩) (.inr rfl) _
  obtain ⟨tag, t0, t1, t2, t3, t4⟩ := h.mark
  have hgx := lt_of_block h.box
  have hb : base ≤ W0.heap.size := h.first.base
  have hv : ∀ g, v.ownBlock = some g → W0.heap.size ≤ g := fun g e => (own_block hN.own e).2
  refine ⟨block_set h'.box 1 _, ⟨own_mono (own_keeps hN.own ks (fun g e f => by subst f; have := hv _ e; omega)) hb, Nat.le_trans hb (Nat.le_trans k.size ks.size)⟩, own_keeps h'.progs ks (fun g e f => by subst f; rw [t2 _ e] at t0; cases t0), h.plen, fun j h1 h2 => (h'.each j h1 h2).keeps ks (fun g e f => by subst f; rw [t4 j h1 _ e] at t0; omega), ⟨own_keeps h'.picks.own ks (fun g e f => by subst f; rw [t3 _ e] at t0; cases t0), Nat.le_trans h'.picks.base ks.size⟩, h.wf, ⟨young W0.heap.size 1 tag, ?_, ?_, ?_, ?_, ?_⟩⟩
  · rw [young_old (by omega)]; exact t0
  · intro g e; rw [young_new (hv g e)]
  · intro g e; have := (own_block h.progs e).1; rw [young_old (by omega)]; exact t2 g e
  · intro g e; have := (own_block h.picks.own e).1; rw [young_old (by omega)]; exact t3 g e
  · intro j hj g e; have := (own_block (h.each j hj (by rw [← h.plen]; exact hj)).own e).1; rw [young_old (by omega)]; exact t4 j hj g e
/-- One program more: none yet. -/
theorem Sx.addProg {W w0 : World} {gx : Nat} {vf vp vk : Value} {ps : List Value} {x : Sc} (h : Sx W w0.heap.size gx vf vp vk ps x) (k : Keeps (fun _ => False) w0 W) (hgx : w0.heap.size ≤ gx) (hb : x.progs.length ≤ 1048576) :
    ∃ v' W', (Builtin.append_ #[23, 23] 23 #[vp, .slice (some ⟨W.heap.size, 0, none⟩) 1 1]).run Tryz.prog (W.alloc (.cells #[.slice none 0 0] 42)) = .ok v' W' ∧ W'.heap[gx]? = W.heap[gx]? ∧ (∀ q, q < W.heap.size → vp.ownBlock ≠ some q → W'.heap[q]? = W.heap[q]?) ∧
      Sx (W'.setCell ⟨gx, 2, none⟩ v') w0.heap.size gx vf v' vk (ps ++ [.slice none 0 0]) { x with progs := x.progs ++ [[]] } ∧ Keeps (fun _ => False) w0 (W'.setCell ⟨gx, 2, none⟩ v') := by
  obtain ⟨v', W', h1, h2, h3⟩ := own_push1 (P := Tryz.prog) W w0.heap.size 23 23 42 _ 1 24 Tryz.underlying23 info_sl rfl (by decide) vp x.progs.length _ h.progs [.slice none 0 0] rfl (by simp [Value.oneCell']) (by omega) (by decide) k.size
  obtain ⟨tag, t0, t1, t2, t3, t4⟩ := h.mark
  have hgl := lt_of_block h.box
  have ngx : vp.ownBlock ≠ some gx := fun e => by rw [t2 _ e] at t0; cases t0
  have hbox := (h3.keeps.block gx hgl ngx)
  have nf : ∀ g, vf.ownBlock = some g → vp.ownBlock ≠ some g := fun g e f => by have a := t1 g e; rw [t2 g f] at a; cases a
  have nk : ∀ g, vk.ownBlock = some g → vp.ownBlock ≠ some g := fun g e f => by have a := t3 g e; rw [t2 g f] at a; cases a
  have ne : ∀ j (hj : j < ps.length) g, (ps[j]).ownBlock = some g → vp.ownBlock ≠ some g := fun j hj g e f => by have a := t4 j hj g e; rw [t2 g f] at a; omega
  have ks : Keeps (fun k => k = gx) W' (W'.setCell ⟨gx, 2, none⟩ v') := (Keeps.refl (fun k => k = gx) W').setCell (p := ⟨gx, 2, none⟩) (.inr rfl) _
  have ngx' : v'.ownBlock ≠ some gx := fun e => by
    rcases h3.own with q | q
    · exact ngx (q ▸ e)
    · have := q gx e; omega
  have b1 : W'.heap[gx]? = some (.cells #[.int .i64 (x.cells : Int), vf, vp, vk] 26 (0, 0)) := hbox.trans h.box
  have hkeep := kept_grew h3 k (fun g e => (own_block h.progs e).2)
  refine ⟨v', W', h1, hbox, fun q hq hn => h3.keeps.block q hq hn, ⟨block_set b1 2 _, (h.first.keeps h3.keeps nf).keeps ks (fun g e f => by subst f; rw [t1 _ e] at t0; cases t0), ?_, by simp [h.plen], ?_, ⟨own_keeps (own_keeps h.picks.own h3.keeps nk) ks (fun g e f => by subst f; rw [t3 _ e] at t0; cases t0), Nat.le_trans (Nat.le_trans h.picks.base h3.keeps.size) ks.size⟩, ?_, ⟨young W.heap.size 2 tag, ?_, ?_, ?_, ?_, ?_⟩⟩, hkeep.setCell (p := ⟨gx, 2, none⟩) (.inl hgx) _⟩
  · have := own_keeps h2 ks (fun g e f => by subst f; exact ngx' e)
    simpa using this
  · intro j j1 j2
    by_cases hj : j < ps.length
    · have hj2 : j < x.progs.length := by rw [← h.plen]; exact hj
      simp only [List.getElem_append_left hj, List.getElem_append_left hj2]
      exact ((h.each j hj hj2).keeps h3.keeps (ne j hj)).keeps ks (fun g e f => by subst f; rw [t4 j hj _ e] at t0; omega)
    · have e1 : j = ps.length := by simp at j1; omega
      subst e1
      have e2 : ps.length = x.progs.length := h.plen
      rw [List.getElem_append_right (Nat.le_refl _)]
      simp only [Nat.sub_self, List.getElem_cons_zero]
      have : (x.progs ++ [[]])[ps.length]'j2 = [] := by
        rw [List.getElem_append_right (by omega)]
        simp [e2]
      rw [this]
      exact ⟨⟨rfl, .inl ⟨rfl, rfl⟩⟩, Nat.le_trans hkeep.size ks.size⟩
  · intro p hp i hi
    rcases List.mem_append.1 hp with hp | hp
    · exact h.wf p hp i hi
    · simp only [List.mem_singleton] at hp; subst hp; simp at hi
  · rw [young_old (by omega)]; exact t0
  · intro g e; have := (own_block h.first.own e).1; rw [young_old (by omega)]; exact t1 g e
  · intro g e
    by_cases hy : W.heap.size ≤ g
    · rw [young_new hy]
    · rw [young_old (by omega)]
      rcases h3.own with q | q
      · exact t2 g (q ▸ e)
      · have := q g e; omega
  · intro g e; have := (own_block h.picks.own e).1; rw [young_old (by omega)]; exact t3 g e
  · intro j hj g e
    by_cases hjl : j < ps.length
    · rw [List.getElem_append_left hjl] at e
      have := (own_block (h.each j hjl (by rw [← h.plen]; exact hjl)).own e).1
      rw [young_old (by omega)]; exact t4 j hjl g e
    · rw [List.getElem_append_right (by omega)] at e
      simp at hj
      have : j - ps.length = 0 := by omega
      simp [this] at e
      cases e
/-- One pick more. -/
theorem Sx.addPick {W w0 : World} {gx : Nat} {vf vp vk : Value} {ps : List Value} {x : Sc} (h : Sx W w0.heap.size gx vf vp vk ps x) (k : Keeps (fun _ => False) w0 W) (hgx : w0.heap.size ≤ gx) (n : Nat) (hb : x.picks.length ≤ 1048576) :
    ∃ v' W', (Builtin.append_ #[24, 24] 24 #[vk, .slice (some ⟨W.heap.size, 0, none⟩) 1 1]).run Tryz.prog (W.alloc (.cells #[.int .u32 (n : Int)] 41)) = .ok v' W' ∧ (∀ q, q < W.heap.size → vk.ownBlock ≠ some q → W'.heap[q]? = W.heap[q]?) ∧ vk.ownBlock ≠ some gx ∧
      Sx (W'.setCell ⟨gx, 3, none⟩ v') w0.heap.size gx vf vp v' ps { x with picks := x.picks ++ [n] } ∧ Keeps (fun _ => False) w0 (W'.setCell ⟨gx, 3, none⟩ v') ∧ Keeps (fun q => q = gx ∨ vk.ownBlock = some q) W (W'.setCell ⟨gx, 3, none⟩ v') := by
  obtain ⟨v', W', h1, h2, h3⟩ := own_push1 (P := Tryz.prog) W w0.heap.size 24 24 41 _ 1 4 Tryz.underlying24 info_u32 rfl (by decide) vk x.picks.length _ h.picks.own [.int .u32 (n : Int)] rfl (by simp [Value.oneCell']) (by omega) (by decide) k.size
  obtain ⟨tag, t0, t1, t2, t3, t4⟩ := h.mark
  have hgl := lt_of_block h.box
  have ngx : vk.ownBlock ≠ some gx := fun e => by rw [t3 _ e] at t0; cases t0
  have hbox := (h3.keeps.block gx hgl ngx)
  have nf : ∀ g, vf.ownBlock = some g → vk.ownBlock ≠ some g := fun g e f => by have a := t1 g e; rw [t3 g f] at a; cases a
  have np : ∀ g, vp.ownBlock = some g → vk.ownBlock ≠ some g := fun g e f => by have a := t2 g e; rw [t3 g f] at a; cases a
  have ne : ∀ j (hj : j < ps.length) g, (ps[j]).ownBlock = some g → vk.ownBlock ≠ some g := fun j hj g e f => by have a := t4 j hj g e; rw [t3 g f] at a; omega
  have ks : Keeps (fun k => k = gx) W' (W'.setCell ⟨gx, 3, none⟩ v') := (Keeps.refl (fun k => k = gx) W').setCell (p := ⟨gx, 3, none⟩) (.inr rfl) _
  have ngx' : v'.ownBlock ≠ some gx := fun e => by
    rcases h3.own with q | q
    · exact ngx (q ▸ e)
    · have := q gx e; omega
  have b1 : W'.heap[gx]? = some (.cells #[.int .i64 (x.cells : Int), vf, vp, vk] 26 (0, 0)) := hbox.trans h.box
  have hkeep := kept_grew h3 k (fun g e => (own_block h.picks.own e).2)
  refine ⟨v', W', h1, fun q hq hn => h3.keeps.block q hq hn, ngx, ⟨block_set b1 3 _, (h.first.keeps h3.keeps nf).keeps ks (fun g e f => by subst f; rw [t1 _ e] at t0; cases t0), own_keeps (own_keeps h.progs h3.keeps np) ks (fun g e f => by subst f; rw [t2 _ e] at t0; cases t0), h.plen, fun j j1 j2 => ((h.each j j1 j2).keeps h3.keeps (ne j j1)).keeps ks (fun g e f => by subst f; rw [t4 j j1 _ e] at t0; omega), ⟨?_, Nat.le_trans (Nat.le_trans h.picks.base h3.keeps.size) ks.size⟩, h.wf, ⟨young W.heap.size 3 tag, ?_, ?_, ?_, ?_, ?_⟩⟩, hkeep.setCell (p := ⟨gx, 3, none⟩) (.inl hgx) _, (h3.keeps.mono (fun _ _ e => .inr e)).trans (ks.mono (fun _ _ e => .inl e))⟩
  · have := own_keeps h2 ks (fun g e f => by subst f; exact ngx' e)
    simpa using this
  · rw [young_old (by omega)]; exact t0
  · intro g e; have := (own_block h.first.own e).1; rw [young_old (by omega)]; exact t1 g e
  · intro g e; have := (own_block h.progs e).1; rw [young_old (by omega)]; exact t2 g e
  · intro g e
    by_cases hy : W.heap.size ≤ g
    · rw [young_new hy]
    · rw [young_old (by omega)]
      rcases h3.own with q | q
      · exact t3 g (q ▸ e)
      · have := q g e; omega
  · intro j hj g e
    have := (own_block (h.each j hj (by rw [← h.plen]; exact hj)).own e).1
    rw [young_old (by omega)]; exact t4 j hj g e
theorem own_set1 {W : World} {base : Nat} {e : TypeId} {v : Value} {n : Nat} {xs : List Value} (h : W.ownsRow base e 1 v n xs) (k : Nat) (hk : k < n) (u : Value) :
    ∃ g cap, v = .slice (some ⟨g, 0, none⟩) n cap ∧ n ≤ cap ∧ v.ownBlock = some g ∧ W.cell? ⟨g, k, none⟩ = xs[k]? ∧ W.frozen? ⟨g, k, none⟩ = false ∧ (W.setCell ⟨g, k, none⟩ u).ownsRow base e 1 v n (xs.set k u) := by
  have hx := h.1
  rcases h.2 with ⟨_, h2⟩ | ⟨g, cap, cur, rfl, h1, h2, h3, h4, h5, h6⟩
  · omega
  · have hlt : k < cur.size := by rw [h5]; omega
    refine ⟨g, cap, rfl, h3, rfl, ?_, frozen_of_block h2 _, ⟨by simpa using hx, .inr ⟨g, cap, _, rfl, h1, block_set h2 _ _, h3, h4, by rw [Array.size_setIfInBounds]; exact h5, ?_⟩⟩⟩
    · rw [cell_of_block h2, ← h6, List.getElem?_take_of_lt (by omega)]
      simp
    · rw [← h6, Array.toList_setIfInBounds, List.take_set]
/-- An instruction more in the last program. -/
theorem Sx.addIns {W w0 : World} {gx : Nat} {vf vp vk : Value} {ps : List Value} {x : Sc} (h : Sx W w0.heap.size gx vf vp vk ps x) (k : Keeps (fun _ => False) w0 W) (i : I5) (hi : i.wf) (m : Nat) (hm : x.progs.length = m + 1) (hb : ((x.progs[m]'(by omega)).length + 1) * 40 ≤ 140737488355328) :
    ∃ gp cap v' W', vp = .slice (some ⟨gp, 0, none⟩) (m + 1) cap ∧ m + 1 ≤ cap ∧ W.cell? ⟨gp, m, none⟩ = some (ps[m]'(by rw [h.plen]; omega)) ∧
      (Builtin.append_ #[42, 42] 42 #[ps[m]'(by rw [h.plen]; omega), .slice (some ⟨W.heap.size, 0, none⟩) 1 1]).run Tryz.prog (W.alloc (.cells #[.int .i64 i.op, .int .i64 i.a, .int .i64 i.b, .int .i64 i.c, .int .u64 i.n] 45)) = .ok v' W' ∧
      (∀ q, q < W.heap.size → (ps[m]'(by rw [h.plen]; omega)).ownBlock ≠ some q → W'.heap[q]? = W.heap[q]?) ∧ (ps[m]'(by rw [h.plen]; omega)).ownBlock ≠ some gx ∧ (ps[m]'(by rw [h.plen]; omega)).ownBlock ≠ some gp ∧
      (∃ u, W'.cell? ⟨gp, m, none⟩ = some u) ∧ W'.frozen? ⟨gp, m, none⟩ = false ∧
      Sx (W'.setCell ⟨gp, m, none⟩ v') w0.heap.size gx vf vp vk (ps.set m v') { x with progs := lastPush x.progs i } ∧ Keeps (fun _ => False) w0 (W'.setCell ⟨gp, m, none⟩ v') := by
  have hmp : m < ps.length := by rw [h.plen]; omega
  have hmx : m < x.progs.length := by omega
  obtain ⟨v', W', h1, h2, h3⟩ := (h.each m hmp hmx).push2 i hi hb
  obtain ⟨tag, t0, t1, t2, t3, t4⟩ := h.mark
  have hgl := lt_of_block h.box
  have ngx : (ps[m]).ownBlock ≠ some gx := fun e => by rw [t4 m hmp _ e] at t0; omega
  have nf : ∀ g, vf.ownBlock = some g → (ps[m]).ownBlock ≠ some g := fun g e f => by have a := t1 g e; rw [t4 m hmp g f] at a; omega
  have np : ∀ g, vp.ownBlock = some g → (ps[m]).ownBlock ≠ some g := fun g e f => by have a := t2 g e; rw [t4 m hmp g f] at a; omega
  have nk : ∀ g, vk.ownBlock = some g → (ps[m]).ownBlock ≠ some g := fun g e f => by have a := t3 g e; rw [t4 m hmp g f] at a; omega
  have ne : ∀ j (hj : j < ps.length), j ≠ m → ∀ g, (ps[j]).ownBlock = some g → (ps[m]).ownBlock ≠ some g := fun j hj hjm g e f => by have a := t4 j hj g e; rw [t4 m hmp g f] at a; omega
  obtain ⟨gp, cap, e1, e2, e3, e4, e5, e6⟩ := own_set1 (own_keeps h.progs h3.keeps np) m hmx v'
  have e4' := (own_set1 h.progs m hmx v')
  obtain ⟨gp', cap', f1, f2, f3, f4, f5, f6⟩ := e4'
  have hgg : gp' = gp := by rw [e1] at f1; simp only [Value.slice.injEq, Option.some.injEq, Addr.mk.injEq] at f1; exact f1.1.1.symm
  subst hgg
  have hgpl : gp' < W.heap.size := (own_block h.progs f3).1
  have tgp : tag gp' = 2 := t2 gp' f3
  have ks : Keeps (fun k => k = gp') W' (W'.setCell ⟨gp', m, none⟩ v') := (Keeps.refl (fun k => k = gp') W').setCell (p := ⟨gp', m, none⟩) (.inr rfl) _
  have hbox := (h3.keeps.block gx hgl ngx)
  have gxp : gx ≠ gp' := fun e => by rw [e] at t0; rw [tgp] at t0; cases t0
  have hkeep := kept_grew h3 k (fun g e => (own_block (h.each m hmp hmx).own e).2)
  have hlen : (lastPush x.progs i).length = x.progs.length := by simp [lastPush]
  have hgetm : (lastPush x.progs i)[m]'(by rw [hlen]; exact hmx) = x.progs[m] ++ [i] := by
    unfold lastPush
    rw [List.getElem_modify, if_pos (by omega)]
  have hgeto : ∀ j (hj : j < x.progs.length), j ≠ m → (lastPush x.progs i)[j]'(by rw [hlen]; exact hj) = x.progs[j] := fun j hj hjm => by
    unfold lastPush
    rw [List.getElem_modify, if_neg (by omega)]
  have nv : v'.ownBlock ≠ some gp' := fun e => by
    rcases h3.own with q | q
    · exact np gp' f3 (q ▸ e)
    · have := q gp' e; omega
  refine ⟨gp', cap, v', W', by rw [e1, hm], by omega, by rw [f4, List.getElem?_eq_getElem hmp], h1, fun q hq hn => h3.keeps.block q hq hn, ngx, np gp' f3, ⟨ps[m], by rw [e4, List.getElem?_eq_getElem hmp]⟩, e5, ⟨?_, (h.first.keeps h3.keeps nf).keeps ks (fun g e f => by subst f; have := t1 _ e; rw [tgp] at this; cases this), by rw [hlen]; exact e6, by rw [hlen, List.length_set]; exact h.plen, ?_, ⟨own_keeps (own_keeps h.picks.own h3.keeps nk) ks (fun g e f => by subst f; have := t3 _ e; rw [tgp] at this; cases this), Nat.le_trans (Nat.le_trans h.picks.base h3.keeps.size) ks.size⟩, ?_, ⟨young W.heap.size (4 + m) tag, ?_, ?_, ?_, ?_, ?_⟩⟩, hkeep.setCell (p := ⟨gp', m, none⟩) (.inl (own_block h.progs f3).2) _⟩
  · exact (ks.block gx (Nat.lt_of_lt_of_le hgl h3.keeps.size) gxp).trans (hbox.trans h.box)
  · intro j j1 j2
    rw [List.length_set] at j1
    rw [hlen] at j2
    by_cases hj : j = m
    · subst hj
      rw [hgetm]
      simp only [List.getElem_set_self]
      exact h2.keeps ks (fun g e f => by subst f; exact nv e)
    · rw [hgeto j j2 hj, List.getElem_set_ne (Ne.symm hj)]
      exact ((h.each j j1 j2).keeps h3.keeps (ne j j1 hj)).keeps ks (fun g e f => by subst f; have := t4 j j1 _ e; rw [tgp] at this; omega)
  · intro p hp
    obtain ⟨j, hj, rfl⟩ := List.getElem_of_mem hp
    rw [hlen] at hj
    by_cases hjm : j = m
    · subst hjm
      rw [hgetm]
      intro q hq
      rcases List.mem_append.1 hq with hq | hq
      · exact h.wf _ (List.getElem_mem hmx) q hq
      · simp only [List.mem_singleton] at hq; subst hq; exact hi
    · rw [hgeto j hj hjm]
      exact h.wf _ (List.getElem_mem hj)
  · rw [young_old (by omega)]; exact t0
  · intro g e; have := (own_block h.first.own e).1; rw [young_old (by omega)]; exact t1 g e
  · intro g e; have := (own_block h.progs e).1; rw [young_old (by omega)]; exact t2 g e
  · intro g e; have := (own_block h.picks.own e).1; rw [young_old (by omega)]; exact t3 g e
  · intro j hj g e
    have hj' : j < ps.length := by simpa using hj
    by_cases hjm : j = m
    · subst hjm
      simp only [List.getElem_set_self] at e
      by_cases hy : W.heap.size ≤ g
      · rw [young_new hy]
      · rw [young_old (by omega)]
        rcases h3.own with q | q
        · exact t4 j hj' g (q ▸ e)
        · have := q g e; omega
    · rw [List.getElem_set_ne (Ne.symm hjm)] at e
      have := (own_block (h.each j hj' (by rw [← h.plen]; exact hj')).own e).1
      rw [young_old (by omega)]; exact t4 j hj' g e
end Go.Proofs.YtppejcfghlpbjaaGreatDoor


/- Scripts as they lie; the document's SameScript of equals (package parleyref09). No statement of the seat is proved here. -/
namespace Go.Proofs.YtppejcfghlpbjaaGreatDoor
open Go.RowKit Go.Shelf

/-- A script where it lies. -/
structure ScAt (W : World) (vf vp vk : Value) (x : Sc) : Prop where
  first : ∃ a cap, vf = .slice a x.first.length cap ∧ x.first.length ≤ cap ∧ ∀ k (hk : k < x.first.length), ∃ g off, a = some ⟨g, off, none⟩ ∧ W.cell? ⟨g, off + k, none⟩ = some (.int .u64 (x.first[k] : Int))
  progs : ∃ a cap, vp = .slice a x.progs.length cap ∧ x.progs.length ≤ cap ∧ ∀ k (hk : k < x.progs.length), ∃ g off v, a = some ⟨g, off, none⟩ ∧ W.cell? ⟨g, off + k, none⟩ = some v ∧ InsAt W v (x.progs[k])
  picks : ∃ a cap, vk = .slice a x.picks.length cap ∧ x.picks.length ≤ cap ∧ ∀ k (hk : k < x.picks.length), ∃ g off, a = some ⟨g, off, none⟩ ∧ W.cell? ⟨g, off + k, none⟩ = some (.int .u32 (x.picks[k] : Int))
theorem cell_keep {W W' : World} (k : Keeps (fun _ => False) W W') {a : Addr} {v : Value} (h : W.cell? a = some v) : W'.cell? a = some v := by
  have hb := k.block a.block (World.block_lt_of_cell? _ _ h) (fun f => f)
  rw [← h]
  simp only [World.cell?, hb]
theorem ScAt.keeps {W W' : World} {vf vp vk : Value} {x : Sc} (h : ScAt W vf vp vk x) (k : Keeps (fun _ => False) W W') : ScAt W' vf vp vk x := by
  obtain ⟨⟨a, c, e1, l1, h1⟩, ⟨b, d, e2, l2, h2⟩, ⟨p, q, e3, l3, h3⟩⟩ := h
  refine ⟨⟨a, c, e1, l1, fun j hj => ?_⟩, ⟨b, d, e2, l2, fun j hj => ?_⟩, ⟨p, q, e3, l3, fun j hj => ?_⟩⟩
  · obtain ⟨g, off, e, hc⟩ := h1 j hj
    exact ⟨g, off, e, cell_keep k hc⟩
  · obtain ⟨g, off, v, e, hc, hi⟩ := h2 j hj
    exact ⟨g, off, v, e, cell_keep k hc, hi.keeps k⟩
  · obtain ⟨g, off, e, hc⟩ := h3 j hj
    exact ⟨g, off, e, cell_keep k hc⟩
theorem row_lies {W : World} {base : Nat} {e : TypeId} {v : Value} {n : Nat} {xs : List Value} (h : W.ownsRow base e 1 v n xs) : ∃ a cap, v = .slice a n cap ∧ n ≤ cap ∧ ∀ k u, k < n → xs[k]? = some u → ∃ g off, a = some ⟨g, off, none⟩ ∧ W.cell? ⟨g, off + k, none⟩ = some u := by
  by_cases hn : 0 < n
  · obtain ⟨g, cap, e1, e2, e3⟩ := row1_at h hn
    exact ⟨_, cap, e1, e2, fun k u hk hu => ⟨g, 0, rfl, by rw [Nat.zero_add]; exact e3 k u hk hu⟩⟩
  · obtain rfl : n = 0 := by omega
    rcases h.2 with ⟨rfl, _⟩ | ⟨g, cap, cur, rfl, _, _, h3, _⟩
    · exact ⟨none, 0, rfl, Nat.le_refl _, fun k u hk => by omega⟩
    · exact ⟨_, cap, rfl, h3, fun k u hk => by omega⟩
theorem Sx.at {W : World} {base gx : Nat} {vf vp vk : Value} {ps : List Value} {x : Sc} (h : Sx W base gx vf vp vk ps x) (hb : ∀ p ∈ x.progs, p.length * 40 ≤ 140737488355328) : ScAt W vf vp vk x := by
  obtain ⟨a, c, e1, l1, h1⟩ := row_lies h.first.own
  obtain ⟨b, d, e2, l2, h2⟩ := row_lies h.progs
  obtain ⟨p, q, e3, l3, h3⟩ := row_lies h.picks.own
  refine ⟨⟨a, c, e1, l1, fun k hk => h1 k _ hk (by simp [hk])⟩, ⟨b, d, e2, l2, fun k hk => ?_⟩, ⟨p, q, e3, l3, fun k hk => h3 k _ hk (by simp [hk])⟩⟩
  have hkp : k < ps.length := by rw [h.plen]; exact hk
  obtain ⟨g, off, e, hc⟩ := h2 k (ps[k]) hk (by simp [hkp])
  exact ⟨g, off, ps[k], e, hc, (h.each k hkp hk).insAt (h.wf _ (List.getElem_mem hk)) (hb _ (List.getElem_mem hk))⟩
end Go.Proofs.YtppejcfghlpbjaaGreatDoor
