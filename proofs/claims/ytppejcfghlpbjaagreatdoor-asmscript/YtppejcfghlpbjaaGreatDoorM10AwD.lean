/-
  No statement of the seat is proved here. (Several texts in one: AwD, AwH, AuF, AuG, AuH, AuB, AuC, AuI, AwI, AwE.)
-/
import Derived.Test.YtppejcfghlpbjaaGreatDoorM08AsW
import Derived.Test.YtppejcfghlpbjaaGreatDoorM06AsL
import Derived.Test.YtppejcfghlpbjaaGreatDoorM09AsX
import Derived.Test.YtppejcfghlpbjaaGreatDoorM04AsQ
import Derived.Test.YtppejcfghlpbjaaGreatDoorM07AsN

/- Walk of the document's parts (package parleyref09). No statement of the seat is proved here. -/
namespace Go.Proofs.YtppejcfghlpbjaaGreatDoor
open Go.RowKit Go.Shelf

/-- A row of texts of the call's own. -/
structure Strs (w : World) (base : Nat) (v : Value) (L : List (List UInt8)) : Prop where
  own : w.ownsRow base 9 1 v L.length (L.map keyV)
  base : base ≤ w.heap.size
theorem Strs.nil (w : World) : Strs w w.heap.size (.slice none 0 0) [] := ⟨⟨rfl, .inl ⟨rfl, rfl⟩⟩, Nat.le_refl _⟩
theorem Strs.keeps {w w' : World} {base : Nat} {v : Value} {L : List (List UInt8)} {S : Nat → Prop} (h : Strs w base v L) (k : Keeps S w w') (hs : ∀ g, v.ownBlock = some g → ¬ S g) : Strs w' base v L :=
  ⟨own_keeps h.own k hs, Nat.le_trans h.base k.size⟩
theorem Strs.push {w : World} {base : Nat} {v : Value} {L : List (List UInt8)} (h : Strs w base v L) (x : List UInt8) (hb : L.length + 1 ≤ 1048578) :
    ∃ v' w', (Builtin.append_ #[106, 106] 106 #[v, .slice (some ⟨w.heap.size, 0, none⟩) 1 1]).run Tryz.prog (w.alloc (.cells #[.string ⟨x.toArray⟩] 9)) = .ok v' w' ∧ Strs w' base v' (L ++ [x]) ∧ Grew w w' v v' := by
  obtain ⟨v', w', h1, h2, h3⟩ := own_push1 (P := Tryz.prog) w base 106 106 9 (.string ByteArray.empty) 1 16 Tryz.underlying106 info_str rfl (by decide) v L.length _ h.own [.string ⟨x.toArray⟩] rfl (by simp [Value.oneCell']) (by omega) (by decide) h.base
  exact ⟨v', w', h1, ⟨by simpa [keyV] using h2, Nat.le_trans h.base h3.keeps.size⟩, h3⟩
theorem Strs.kept {w wr w' : World} {u u' : Value} {X : List (List UInt8)} (h : Grew wr w' u u') (k : Keeps (fun _ => False) w wr) (hb : Strs wr w.heap.size u X) : Keeps (fun _ => False) w w' :=
  ⟨h.keeps.os.trans k.os, h.keeps.tape.trans k.tape, h.keeps.output.trans k.output, Nat.le_trans k.size h.keeps.size, fun g hg hs => (h.keeps.block g (Nat.lt_of_lt_of_le hg k.size) fun e => by
    have := (own_block hb.own e).2; omega).trans (k.block g hg hs)⟩
theorem Strs.shape {w : World} {base : Nat} {v : Value} {L : List (List UInt8)} (h : Strs w base v L) : ∃ a cap, v = .slice a L.length cap := by
  rcases h.own.2 with ⟨rfl, h2⟩ | ⟨g, cap, cur, rfl, h1, h2, h3, h4, h5, h6⟩
  · exact ⟨none, 0, by rw [h2]⟩
  · exact ⟨_, cap, rfl⟩
theorem Strs.form {w : World} {base : Nat} {v : Value} {L : List (List UInt8)} (h : Strs w base v L) (hne : L ≠ []) : ∃ g cap, v = .slice (some ⟨g, 0, none⟩) L.length cap ∧ L.length ≤ cap ∧ g < w.heap.size ∧ base ≤ g ∧ ∀ k (hk : k < L.length), w.cell? ⟨g, k, none⟩ = some (.string ⟨(L[k]).toArray⟩) := by
  rcases h.own.2 with ⟨rfl, h2⟩ | ⟨g, cap, cur, rfl, h1, h2, h3, h4, h5, h6⟩
  · exact absurd (List.length_eq_zero_iff.1 h2) hne
  · refine ⟨g, cap, rfl, h3, lt_of_block h2, h1, fun k hk => ?_⟩
    rw [cell_of_block h2]
    have : (cur.toList.take (L.length * 1))[k]? = some (keyV (L[k])) := by rw [h6]; simp [hk]
    rw [List.getElem?_take_of_lt (by omega)] at this
    simpa [keyV] using this

theorem bparts_len : ∀ (l word : List UInt8), (bparts word l).length ≤ l.length + 1
  | [], word => by unfold bparts; split <;> simp
  | c :: t, word => by
    unfold bparts
    have h1 := bparts_len t []
    have h2 := bparts_len t (word ++ [c])
    split
    · split
      · simp; omega
      · simp; omega
    · simp; omega
set_option maxRecDepth 100000 in
set_option maxHeartbeats 4000000 in
theorem rparts_any (l : List UInt8) (hl : l.length ≤ 1048576) (w : World) : Calls Tryz.prog 50 #[.string ⟨l.toArray⟩] w fun e w' => ∃ v, e = .returned v ∧ Strs w' w.heap.size v (bparts [] l) ∧ Keeps (fun _ => False) w w' := by
  have hsz := size_of l
  go_enter Tryz.func50, Tryz.ntmps50
  go_wp2_with fail
  go_loopw [3, 4, 5] (fun u v1 v2 wr => ∃ (vo : Value) (i : Nat) (done : List (List UInt8)) (wd : List UInt8), vo = u ∧ v1 = .string ⟨wd.toArray⟩ ∧ v2 = .int .i64 i ∧ i ≤ l.length ∧ wd.length ≤ i ∧ Hid (Strs wr w.heap.size vo done ∧ Keeps (fun _ => False) w wr ∧ done.length ≤ i ∧ bparts [] l = done ++ bparts wd (l.drop i))) (fun _ _ v _ => l.length - (intOf v).toNat)
  case atStart => exact ⟨_, 0, [], [], rfl, rfl, rfl, Nat.zero_le _, by simp, ⟨Strs.nil w, Keeps.refl _ _, by simp, by simp⟩⟩
  case round =>
    obtain ⟨vo, i, done, wd, rfl, rfl, rfl, hil, hwl, hh⟩ := hrel
    by_cases hlt : i < l.length
    · have hli : (i : Int) < l.length := by omega
      have hs : i < (⟨l.toArray⟩ : ByteArray).size := by rw [hsz]; exact hlt
      have hat : ((⟨l.toArray⟩ : ByteArray)[i]'hs).toNat = (l[i]).toNat := rfl
      have HD : Hid (bparts wd (l.drop i) = if blk (l[i]) then (if wd = [] then bparts [] (l.drop (i + 1)) else wd :: bparts [] (l.drop (i + 1))) else bparts (wd ++ [l[i]]) (l.drop (i + 1))) := by
        unfold Hid
        rw [List.drop_eq_getElem_cons hlt, bparts]
      have hcut : (⟨l.toArray⟩ : ByteArray).extract i (i + 1) = ⟨[l[i]].toArray⟩ := by
        rw [cut_str]
        congr 2
        rw [show i + 1 - i = 1 by omega, List.drop_eq_getElem_cons hlt]
        rfl
      by_cases hb : blk (l[i]) = true
      · rw [if_pos hb] at HD
        have hx : (l[i]).toNat = 32 ∨ (l[i]).toNat = 9 := by
          simp only [blk, Bool.or_eq_true, beq_iff_eq] at hb
          rcases hb with h | h <;> rw [h] <;> simp
        by_cases hwd : wd = []
        · subst hwd
          rw [if_pos rfl] at HD
          have fin : Hid (Strs wr w.heap.size vo done ∧ Keeps (fun _ => False) w wr ∧ done.length ≤ i + 1 ∧ bparts [] l = done ++ bparts [] (l.drop (i + 1))) := by
            obtain ⟨q1, q2, q3, q4⟩ := hh.out
            exact ⟨q1, q2, by omega, by rw [q4, HD.out]⟩
          obtain ⟨ua, uc, rfl⟩ := hh.out.1.shape
          clear hh HD hb
          rcases hx with hx | hx
          all_goals
            rw [hx] at hat
            go_wp2_with fail
            go_roundw
            · exact ⟨_, i + 1, done, [], rfl, by first | rfl | simp, by simp, by omega, by simp, fin⟩
            · simp [intOf]; omega
        · rw [if_neg hwd] at HD
          have hemp : (ByteArray.toList ⟨wd.toArray⟩ == []) = false := by simpa using hwd
          have hemp' : (ByteArray.toList ⟨wd.toArray⟩ != []) = true := by simpa using hwd
          have hem : wd.isEmpty = false := by cases wd; exact absurd rfl hwd; rfl
          obtain ⟨q1, q2, q3, q4⟩ := hh.out
          obtain ⟨v1, w1, r1, r2, r3⟩ := q1.push wd (by omega)
          have HR : Hid (_ = _) := r1
          have KK := Strs.kept r3 q2 q1
          have fin : Hid (Strs w1 w.heap.size v1 (done ++ [wd]) ∧ Keeps (fun _ => False) w w1 ∧ (done ++ [wd]).length ≤ i + 1 ∧ bparts [] l = (done ++ [wd]) ++ bparts [] (l.drop (i + 1))) := ⟨r2, KK, by simp; omega, by rw [q4, HD.out]; simp⟩
          obtain ⟨ua, uc, rfl⟩ := q1.shape
          clear hh HD hb q1 q2 q3 q4 r1 r2 r3 KK
          rcases hx with hx | hx
          all_goals
            rw [hx] at hat
            go_wp2_with (at_builtin; refine wpList_append_run rfl _ _ 106 rfl rfl rfl HR.out ?_)
            go_roundw
            · exact ⟨_, i + 1, done ++ [wd], [], rfl, by first | rfl | simp, by simp, by omega, by simp, fin⟩
            · simp [intOf]; omega
      · rw [if_neg hb] at HD
        have hx : (l[i]).toNat ≠ 32 ∧ (l[i]).toNat ≠ 9 := by
          simp only [blk, Bool.or_eq_true, beq_iff_eq, not_or] at hb
          exact ⟨fun h => hb.1 (UInt8.toNat.inj (by rw [h]; rfl)), fun h => hb.2 (UInt8.toNat.inj (by rw [h]; rfl))⟩
        obtain ⟨Y1, s1, e1, l1⟩ := cat_ex wd [l[i]]
        simp only [List.length_cons, List.length_nil] at l1
        have t1 : ¬ 9223372036854775807 < wd.length + 1 := by omega
        have fin : Hid (Strs wr w.heap.size vo done ∧ Keeps (fun _ => False) w wr ∧ done.length ≤ i + 1 ∧ bparts [] l = done ++ bparts Y1 (l.drop (i + 1))) := by
          obtain ⟨q1, q2, q3, q4⟩ := hh.out
          exact ⟨q1, q2, by omega, by rw [q4, HD.out, e1.out]⟩
        obtain ⟨ua, uc, rfl⟩ := hh.out.1.shape
        generalize l[i] = lc at *
        generalize lc.toNat = x at *
        have b1 : ((x : Int) == 32) = false := by simp; omega
        have b2 : ((x : Int) == 9) = false := by simp; omega
        clear hh HD hb
        go_wp2_with fail
        go_roundw
        · exact ⟨_, i + 1, done, Y1, rfl, by first | rfl | simp, by simp, by omega, by omega, fin⟩
        · simp [intOf]; omega
    · have hli : ¬ (i : Int) < l.length := by omega
      obtain rfl : i = l.length := by omega
      have HD : Hid (bparts wd (l.drop l.length) = if wd = [] then [] else [wd]) := by
        unfold Hid
        rw [List.drop_length, bparts]
      obtain ⟨q1, q2, q3, q4⟩ := hh.out
      by_cases hwd : wd = []
      · subst hwd
        rw [if_pos rfl] at HD
        have fin : Hid (Strs wr w.heap.size vo (bparts [] l) ∧ Keeps (fun _ => False) w wr) := ⟨by rw [q4, HD.out]; simpa using q1, q2⟩
        obtain ⟨ua, uc, rfl⟩ := q1.shape
        clear hh HD q1 q2 q3 q4
        go_wp2_with fail
        go_ret
        exact ⟨_, rfl, fin.out⟩
      · rw [if_neg hwd] at HD
        have hemp : (ByteArray.toList ⟨wd.toArray⟩ == []) = false := by simpa using hwd
        have hemp' : (ByteArray.toList ⟨wd.toArray⟩ != []) = true := by simpa using hwd
        have hem : wd.isEmpty = false := by cases wd; exact absurd rfl hwd; rfl
        obtain ⟨v1, w1, r1, r2, r3⟩ := q1.push wd (by omega)
        have HR : Hid (_ = _) := r1
        have KK := Strs.kept r3 q2 q1
        have fin : Hid (Strs w1 w.heap.size v1 (bparts [] l) ∧ Keeps (fun _ => False) w w1) := ⟨by rw [q4, HD.out]; exact r2, KK⟩
        obtain ⟨ua, uc, rfl⟩ := q1.shape
        clear hh HD q1 q2 q3 q4 r1 r2 r3 KK
        go_wp2_with (at_builtin; refine wpList_append_run rfl _ _ 106 rfl rfl rfl HR.out ?_)
        go_ret
        exact ⟨_, rfl, fin.out⟩
end Go.Proofs.YtppejcfghlpbjaaGreatDoor


/- A line and its body by the places at which they end; a line read colon by colon, step by step. Pure facts. No statement of the seat is proved here. -/
namespace Go.Proofs.YtppejcfghlpbjaaGreatDoor
open Go.RowKit Go.Shelf

theorem takeWhile_at (p : UInt8 → Bool) : ∀ (l : List UInt8) (k : Nat), k ≤ l.length → (∀ j (hj : j < l.length), j < k → p (l[j]) = true) → (∀ h : k < l.length, p (l[k]) = false) → l.takeWhile p = l.take k
  | [], k, hk, _, _ => by simp
  | c :: t, 0, _, _, h2 => by
    have := h2 (by simp)
    simp only [List.getElem_cons_zero] at this
    rw [List.takeWhile_cons, if_neg (by simp [this]), List.take_zero]
  | c :: t, k + 1, hk, h1, h2 => by
    have h0 := h1 0 (by simp) (by omega)
    simp only [List.getElem_cons_zero] at h0
    have := takeWhile_at p t k (by simpa using hk) (fun j hj hjk => h1 (j + 1) (by simpa using hj) (by omega)) (fun h => h2 (by simpa using h))
    rw [List.takeWhile_cons, if_pos h0, List.take_succ_cons, this]
/-- A line: from f up to t, its body up to e. -/
theorem line_step {s : List UInt8} {f t e : Nat} (hf : f < s.length) (hft : f ≤ t) (ht : t ≤ s.length) (hno : ∀ j (hj : j < s.length), f ≤ j → j < t → s[j] ≠ 10) (hend : ∀ h : t < s.length, s[t] = 10) (hfe : f ≤ e) (het : e ≤ t)
    (hn2 : ∀ j (hj : j < s.length), f ≤ j → j < e → s[j] ≠ 59) (he : ∀ h : e < s.length, e < t → s[e] = 59) :
    ∃ L, linesL (s.drop f) = L :: linesL (s.drop (t + 1)) ∧ bodyL L = (s.drop f).take (e - f) := by
  have hdl : (s.drop f).length = s.length - f := by simp
  have hbody : ((s.drop f).take (t - f)).takeWhile (fun c => c != 59) = (s.drop f).take (e - f) := by
    rw [takeWhile_at _ _ (e - f) (by simp; omega), List.take_take, Nat.min_eq_left (by omega)]
    · intro j hj hje
      simp only [List.length_take, List.length_drop] at hj
      simp only [List.getElem_take, List.getElem_drop]
      have := hn2 (f + j) (by omega) (by omega) (by omega)
      simpa using this
    · intro h
      simp only [List.length_take, List.length_drop] at h
      simp only [List.getElem_take, List.getElem_drop]
      have := he (by omega) (by omega)
      have e1 : f + (e - f) = e := by omega
      simp [e1, this]
  by_cases htl : t < s.length
  · have hcut := linesL_cut (s.drop f) (t - f) (by simp; omega) (fun j hj => by
      rw [List.getElem_drop]
      exact hno (f + j) (by omega) (by omega) (by omega)) (by
      rw [List.getElem_drop]
      have e1 : f + (t - f) = t := by omega
      simpa [e1] using hend htl)
    refine ⟨(s.drop f).take (t - f + 1), ?_, ?_⟩
    · rw [hcut, List.drop_drop]
      have e1 : f + (t - f + 1) = t + 1 := by omega
      rw [e1]
    · have e1 : f + (t - f) = t := by omega
      have hlast : (s.drop f).take (t - f + 1) = (s.drop f).take (t - f) ++ [10] := by
        rw [List.take_succ_eq_append_getElem (by simp; omega), List.getElem_drop]
        simp [e1, hend htl]
      unfold bodyL
      rw [hlast, List.getLast?_append, List.getLast?_singleton, Option.some_or, if_pos rfl, List.dropLast_concat, hbody]
  · obtain rfl : t = s.length := by omega
    have hmem : ∀ c ∈ s.drop f, c ≠ 10 := by
      intro c hc
      obtain ⟨k, hk, rfl⟩ := List.getElem_of_mem hc
      rw [List.length_drop] at hk
      rw [List.getElem_drop]
      exact hno (f + k) (by omega) (by omega) (by omega)
    have hne : s.drop f ≠ [] := fun h => by rw [h] at hdl; simp at hdl; omega
    refine ⟨s.drop f, ?_, ?_⟩
    · rw [linesL_one _ hne hmem, List.drop_eq_nil_of_le (by omega : s.length ≤ s.length + 1)]
      rfl
    · have htake : (s.drop f).take (s.length - f) = s.drop f := List.take_of_length_le (by simp)
      rw [htake] at hbody
      unfold bodyL
      rw [if_neg, hbody]
      intro h
      exact hmem 10 (List.mem_of_getLast? h) rfl

/-- The place of a label, or -1. -/
def plc (M : List (List UInt8 × Nat)) (x : List UInt8) : Int := match M.lookup x with
  | some p => (p : Int)
  | none => -1
theorem plc_drop : ∀ (M : List (List UInt8 × Nat)) (k : Nat) (x : List UInt8), (∀ j (hj : j < M.length), j < k → (M[j]).1 ≠ x) → M.lookup x = (M.drop k).lookup x
  | [], k, x, _ => by simp
  | p :: M, 0, x, _ => rfl
  | p :: M, k + 1, x, h => by
    have h0 := h 0 (by simp) (by omega)
    simp only [List.getElem_cons_zero] at h0
    rw [List.drop_succ_cons, ← plc_drop M k x (fun j hj hk => h (j + 1) (by simpa using hj) (by omega))]
    obtain ⟨a, b⟩ := p
    rw [List.lookup_cons]
    have : (x == a) = false := by simpa using fun e => h0 e.symm
    rw [this]
theorem plc_hit {M : List (List UInt8 × Nat)} {k : Nat} {x : List UInt8} (hk : k < M.length) (h : ∀ j (hj : j < M.length), j < k → (M[j]).1 ≠ x) (e : (M[k]).1 = x) : plc M x = ((M[k]).2 : Int) := by
  unfold plc
  rw [plc_drop M k x h, List.drop_eq_getElem_cons hk]
  generalize M[k] = q at *
  obtain ⟨a, b⟩ := q
  dsimp only at e ⊢
  subst e
  rw [List.lookup_cons]
  simp
theorem plc_none {M : List (List UInt8 × Nat)} {x : List UInt8} (h : ∀ j (hj : j < M.length), (M[j]).1 ≠ x) : plc M x = -1 := by
  unfold plc
  rw [plc_drop M M.length x (fun j hj _ => h j hj), List.drop_length]
  rfl
theorem lkp_mem : ∀ {M : List (List UInt8 × Nat)} {x : List UInt8} {p : Nat}, M.lookup x = some p → x ∈ M.map (·.1)
  | [], x, p, h => by simp at h
  | (a, b) :: M, x, p, h => by
    rw [List.lookup_cons] at h
    split at h
    · rename_i hb; simp only [beq_iff_eq] at hb; subst hb; simp
    · simp [List.map_cons]; right; simpa using lkp_mem h
theorem lkp_no : ∀ {M : List (List UInt8 × Nat)} {x : List UInt8}, M.lookup x = none → x ∉ M.map (·.1)
  | [], x, _ => by simp
  | (a, b) :: M, x, h => by
    rw [List.lookup_cons] at h
    split at h
    · cases h
    · rename_i hb
      rw [List.map_cons, List.mem_cons, not_or]
      exact ⟨by simpa using hb, lkp_no h⟩
theorem lkp_le : ∀ {M : List (List UInt8 × Nat)} {x : List UInt8} {p N : Nat}, (∀ q ∈ M, q.2 ≤ N) → M.lookup x = some p → p ≤ N
  | [], x, p, N, _, h => by simp at h
  | (a, b) :: M, x, p, N, hN, h => by
    rw [List.lookup_cons] at h
    split at h
    · cases h; exact hN (a, b) (by simp)
    · exact lkp_le (fun q hq => hN q (by simp [hq])) h
theorem stand_yes {r : Rd} {x : List UInt8} (h1 : labB x = true) (h2 : plc r.labs x = -1) : standR r x = some { r with labs := r.labs ++ [(x, r.code.length)] } := by
  have hm : x ∉ r.labs.map (·.1) := by
    unfold plc at h2
    cases hl : r.labs.lookup x with
    | none => exact lkp_no hl
    | some p => rw [hl] at h2; dsimp only at h2; omega
  unfold standR
  rw [if_pos ⟨h1, hm⟩]
theorem stand_no {r : Rd} {x : List UInt8} (h : labB x = false ∨ 0 ≤ plc r.labs x) : standR r x = none := by
  unfold standR
  rw [if_neg]
  rintro ⟨h1, h2⟩
  rcases h with h | h
  · rw [h1] at h; cases h
  · unfold plc at h
    cases hl : r.labs.lookup x with
    | none => rw [hl] at h; dsimp only at h; omega
    | some p => exact h2 (lkp_mem hl)
theorem plc_cases (M : List (List UInt8 × Nat)) (x : List UInt8) : plc M x = -1 ∨ 0 ≤ plc M x := by
  unfold plc
  cases M.lookup x <;> simp
/-- What stands while the labels of a line are read. -/
theorem colR_more {r : Rd} {n : Nat} {s : List UInt8} (h : s.idxOf 58 < s.length) : colR r n s = (standR r ((s.take (s.idxOf 58)).dropWhile blk)).bind fun r' => colR r' n (s.drop (s.idxOf 58 + 1)) := by
  rw [colR, dif_pos h]
theorem colR_last {r : Rd} {n : Nat} {s : List UInt8} (h : ¬ s.idxOf 58 < s.length) : colR r n s = if bparts [] s = [] then some r else insR r (bparts [] s) n := by
  rw [colR, dif_neg h]
theorem readR_line {r : Rd} {n : Nat} {L : List UInt8} {R : List (List UInt8)} : readR r n (L :: R) = match colR r n (bodyL L) with
    | none => (n, none)
    | some r' => readR r' (n + 1) R := by
  rw [readR, colR_eq]
  try (cases lineR r n (toks (bodyL L)) <;> rfl)
theorem dropWhile_blk {c : UInt8} {t : List UInt8} (h : blk c = true) : (c :: t).dropWhile blk = t.dropWhile blk := by
  rw [List.dropWhile_cons, if_pos h]
theorem dropWhile_end {c : UInt8} {t : List UInt8} (h : blk c = false) : (c :: t).dropWhile blk = c :: t := by
  rw [List.dropWhile_cons, if_neg (by simp [h])]
theorem bparts_each : ∀ (t w : List UInt8) (n : Nat), w.length + t.length ≤ n → ∀ x ∈ bparts w t, x.length ≤ n
  | [], w, n, h, x, hx => by
    rw [bparts] at hx
    split at hx
    · simp at hx
    · simp at hx; subst hx; simpa using h
  | c :: t, w, n, h, x, hx => by
    rw [bparts] at hx
    simp only [List.length_cons] at h
    split at hx
    · split at hx
      · exact bparts_each t [] n (by simp; omega) x hx
      · rcases List.mem_cons.1 hx with rfl | hx
        · omega
        · exact bparts_each t [] n (by simp; omega) x hx
    · exact bparts_each t (w ++ [c]) n (by simp; omega) x hx
theorem bparts_ne : ∀ (t w : List UInt8), ∀ x ∈ bparts w t, x ≠ []
  | [], w, x, hx => by
    rw [bparts] at hx
    split at hx
    · simp at hx
    · rename_i h; simp at hx; subst hx; exact h
  | c :: t, w, x, hx => by
    rw [bparts] at hx
    split at hx
    · split at hx
      · exact bparts_ne t [] x hx
      · rename_i h
        rcases List.mem_cons.1 hx with rfl | hx
        · exact h
        · exact bparts_ne t [] x hx
    · exact bparts_ne t (w ++ [c]) x hx
theorem zeroed_no32 {ws : List (List UInt8)} (h : ∀ x ∈ ws, (32 : UInt8) ∉ x) : ∀ x ∈ zeroed ws, (32 : UInt8) ∉ x := by
  intro x hx
  unfold zeroed at hx
  split at hx
  · rcases List.mem_or_eq_of_mem_set hx with hx | rfl
    · exact h x hx
    · decide
  · exact h x hx
theorem bparts_no32 : ∀ (t w : List UInt8), (32 : UInt8) ∉ w → ∀ x ∈ bparts w t, (32 : UInt8) ∉ x
  | [], w, h, x, hx => by
    rw [bparts] at hx
    split at hx
    · simp at hx
    · simp at hx; subst hx; exact h
  | c :: t, w, h, x, hx => by
    rw [bparts] at hx
    split at hx
    · split at hx
      · exact bparts_no32 t [] (by simp) x hx
      · rcases List.mem_cons.1 hx with rfl | hx
        · exact h
        · exact bparts_no32 t [] (by simp) x hx
    · rename_i hb
      refine bparts_no32 t (w ++ [c]) (fun hm => ?_) x hx
      rcases List.mem_append.1 hm with hm | hm
      · exact h hm
      · simp only [List.mem_singleton] at hm
        subst hm
        exact hb (by decide)
end Go.Proofs.YtppejcfghlpbjaaGreatDoor


/- What is written is read: a program's plain text. No statement of the seat is proved here. -/
namespace Go.Proofs.YtppejcfghlpbjaaGreatDoor
open Go.RowKit Go.Shelf

theorem nextW_word (x r : List UInt8) (hx : ∀ c ∈ x, brk c = false) (hne : x ≠ []) : nextW (x ++ 32 :: r) = (x, 32 :: r) := by
  have hd : (x ++ 32 :: r).dropWhile blk = x ++ 32 :: r := by
    cases x with
    | nil => exact absurd rfl hne
    | cons c t =>
      have hc := hx c (by simp)
      simp only [brk, Bool.or_eq_false_iff] at hc
      simp [hc.1]
  unfold nextW
  rw [hd, wordOf_at (x ++ 32 :: r) x.length (by simp) (fun j hj => by rw [List.getElem_append_left hj]; exact hx _ (List.getElem_mem hj)) (by simp [brk, blk])]
  simp
theorem nextW_colon (x r : List UInt8) (hx : ∀ c ∈ x, brk c = false) (hne : x ≠ []) : nextW (x ++ 58 :: r) = (x ++ [58], r) := by
  have hd : (x ++ 58 :: r).dropWhile blk = x ++ 58 :: r := by
    cases x with
    | nil => exact absurd rfl hne
    | cons c t =>
      have hc := hx c (by simp)
      simp only [brk, Bool.or_eq_false_iff] at hc
      simp [hc.1]
  unfold nextW
  rw [hd, wordOf_at (x ++ 58 :: r) x.length (by simp) (fun j hj => by rw [List.getElem_append_left hj]; exact hx _ (List.getElem_mem hj)) (by simp [brk])]
  simp [List.take_append, List.drop_append, List.take_of_length_le]
theorem nextW_end (x : List UInt8) (hx : ∀ c ∈ x, brk c = false) (hne : x ≠ []) : nextW x = (x, []) := by
  have hd : x.dropWhile blk = x := by
    cases x with
    | nil => exact absurd rfl hne
    | cons c t =>
      have hc := hx c (by simp)
      simp only [brk, Bool.or_eq_false_iff] at hc
      simp [hc.1]
  unfold nextW
  rw [hd, wordOf_no x hx]
theorem toks_blank (r : List UInt8) : toks (32 :: r) = toks r := by
  have h : nextW (32 :: r) = nextW r := by unfold nextW; rw [List.dropWhile_cons]; simp [blk]
  by_cases hn : (nextW r).1 = []
  · rw [toks_nil hn, toks_nil (by rw [h]; exact hn)]
  · rw [toks_cons hn, toks_cons (by rw [h]; exact hn), h]
theorem toks_empty : toks [] = [] := toks_nil rfl
theorem toks_join : ∀ ws : List (List UInt8), (∀ x ∈ ws, x ≠ [] ∧ ∀ c ∈ x, brk c = false) → toks (joinB ws) = ws
  | [], _ => toks_empty
  | [x], h => by
    have hx := h x (by simp)
    have e : joinB [x] = x := by simp [joinB]
    rw [e, toks_cons (by rw [nextW_end x hx.2 hx.1]; exact hx.1), nextW_end x hx.2 hx.1, toks_empty]
  | x :: y :: t, h => by
    have hx := h x (by simp)
    have e : joinB (x :: y :: t) = x ++ 32 :: joinB (y :: t) := by simp [joinB]
    have ih := toks_join (y :: t) (fun z hz => h z (by simp [hz]))
    rw [e, toks_cons (by rw [nextW_word x _ hx.2 hx.1]; exact hx.1), nextW_word x _ hx.2 hx.1, toks_blank, ih]
theorem toks_colon (x r : List UInt8) (hx : ∀ c ∈ x, brk c = false) (hne : x ≠ []) : toks (x ++ 58 :: r) = (x ++ [58]) :: toks r := by
  rw [toks_cons (by rw [nextW_colon x r hx hne]; simp), nextW_colon x r hx hne]
theorem linesL_app : ∀ (l r : List UInt8), (∀ c ∈ l, c ≠ 10) → linesL (l ++ 10 :: r) = (l ++ [10]) :: linesL r
  | [], r, _ => by simp [linesL]
  | c :: t, r, h => by
    have ih := linesL_app t r (fun d hd => h d (by simp [hd]))
    have hc := h c (by simp)
    rw [List.cons_append, linesL, if_neg hc, ih]
    rfl
theorem takeWhile_all {p : UInt8 → Bool} : ∀ {l : List UInt8}, (∀ c ∈ l, p c = true) → l.takeWhile p = l
  | [], _ => rfl
  | c :: t, h => by rw [List.takeWhile_cons, if_pos (h c (by simp)), takeWhile_all (fun d hd => h d (by simp [hd]))]
theorem bodyL_line (l : List UInt8) (h : ∀ c ∈ l, c ≠ 59) : bodyL (l ++ [10]) = l := by
  unfold bodyL
  rw [if_pos (by simp), List.dropLast_concat]
  exact takeWhile_all (fun c hc => by simpa using h c hc)

/-- An instruction's words, with a word in the place of its number. -/
def wordsT (i : I5) (t : List UInt8) : List (List UInt8) := (nms[i.op.toNat]?).getD [] :: ((regL i).map (fun n => Lib.decDigits n.toNat) ++ (if numB i.op then [t] else []))
theorem line_join (i : I5) (t : List UInt8) : lineL i t = joinB (wordsT i t) := by
  unfold lineL wordsT joinB blanked
  cases numB i.op <;> simp [List.flatMap_map]
/-- A letter of a name, of a digit, or of a place's name. -/
def okC (c : UInt8) : Bool := decide (48 ≤ c.toNat ∧ c.toNat ≤ 57) || decide (97 ≤ c.toNat ∧ c.toNat ≤ 122)
theorem okC_facts {c : UInt8} (h : okC c = true) : brk c = false ∧ c ≠ 10 ∧ c ≠ 59 ∧ c ≠ 58 ∧ c ≠ 32 := by
  simp only [okC, Bool.or_eq_true, decide_eq_true_eq] at h
  have : c ≠ 32 ∧ c ≠ 9 ∧ c ≠ 58 ∧ c ≠ 10 ∧ c ≠ 59 := by
    refine ⟨?_, ?_, ?_, ?_, ?_⟩ <;> (rintro rfl; revert h; decide)
  simp [brk, blk, this]
theorem dec_ok (n : Nat) : ∀ c ∈ Lib.decDigits n, okC c = true := fun c hc => by
  have := dec_mem n c hc
  simp [okC, this]
theorem nms_ok : ∀ k : Fin 18, ((nms[k.val]?).getD []).all okC = true ∧ (k.val ≠ 0 → (nms[k.val]?).getD [] ≠ []) := by decide
theorem words_ok {i : I5} (h0 : 1 ≤ i.op) (h1 : i.op ≤ 17) {t : List UInt8} (ht : t ≠ []) (hto : ∀ c ∈ t, okC c = true) : ∀ x ∈ wordsT i t, x ≠ [] ∧ ∀ c ∈ x, okC c = true := by
  intro x hx
  unfold wordsT at hx
  have hk := nms_ok ⟨i.op.toNat, by omega⟩
  rcases List.mem_cons.1 hx with rfl | hx
  · exact ⟨hk.2 (by simp; omega), fun c hc => List.all_eq_true.1 hk.1 c hc⟩
  · rcases List.mem_append.1 hx with hx | hx
    · obtain ⟨n, _, rfl⟩ := List.mem_map.1 hx
      exact ⟨dec_ne _, dec_ok _⟩
    · cases hn : numB i.op
      · rw [hn] at hx; simp at hx
      · rw [hn] at hx
        obtain rfl : x = t := by simpa using hx
        exact ⟨ht, hto⟩
theorem join_mem : ∀ (ws : List (List UInt8)) (c : UInt8), c ∈ joinB ws → c = 32 ∨ ∃ x ∈ ws, c ∈ x
  | [], c, h => by simp [joinB] at h
  | x :: t, c, h => by
    unfold joinB at h
    rcases List.mem_append.1 h with h | h
    · exact .inr ⟨x, by simp, h⟩
    · obtain ⟨y, hy, hc⟩ := List.mem_flatMap.1 h
      rcases List.mem_cons.1 hc with rfl | hc
      · exact .inl rfl
      · exact .inr ⟨y, by simp [hy], hc⟩
/-- What a written line is. -/
theorem line_facts {i : I5} (h0 : 1 ≤ i.op) (h1 : i.op ≤ 17) {t : List UInt8} (ht : t ≠ []) (hto : ∀ c ∈ t, okC c = true) : toks (lineL i t) = wordsT i t ∧ (∀ c ∈ lineL i t, c ≠ 10 ∧ c ≠ 59) := by
  have hw := words_ok h0 h1 ht hto
  rw [line_join]
  refine ⟨toks_join _ (fun x hx => ⟨(hw x hx).1, fun c hc => (okC_facts ((hw x hx).2 c hc)).1⟩), fun c hc => ?_⟩
  rcases join_mem _ c hc with rfl | ⟨x, hx, hc⟩
  · decide
  · have := okC_facts ((hw x hx).2 c hc)
    exact ⟨this.2.1, this.2.2.1⟩

theorem words_parse {i : I5} (h : formedB i = true) (hn0 : 0 ≤ i.n) (hn : i.n < 18446744073709551616) : parseW (wordsT i (Lib.decDigits i.n.toNat)) = some i := by
  obtain ⟨⟨h0, h1⟩, -⟩ := formed_facts h
  have hw := words_ok h0 h1 (dec_ne i.n.toNat) (dec_ok i.n.toNat)
  rw [← parse_joinB (by simp [wordsT]) (fun x hx hc => (okC_facts ((hw x hx).2 _ hc)).2.2.2.2 rfl), ← line_join, line_text h]
  exact parse_text h hn0 hn
theorem dec_nolab (n : Nat) : labB (Lib.decDigits n) = false := by
  unfold labB
  cases hd : Lib.decDigits n with
  | nil => simp
  | cons c t =>
    have := dec_mem n c (by rw [hd]; simp)
    have hl : lowB c = false := by simp [lowB]; omega
    simp [hl]
theorem named_of {op : Int} (h0 : 1 ≤ op) (h1 : op ≤ 17) : namedN ((nms[op.toNat]?).getD []) = some op.toNat := by
  rcases op17 h0 h1 with rfl | rfl | rfl | rfl | rfl | rfl | rfl | rfl | rfl | rfl | rfl | rfl | rfl | rfl | rfl | rfl | rfl <;> decide
theorem head_words (i : I5) (t : List UInt8) : ((wordsT i t).head?).getD [] = (nms[i.op.toNat]?).getD [] := rfl
theorem tgt_num {op : Int} (h : tgtB op = true) : numB op = true := by
  have hr := tgt_range h
  rcases op17 hr.1 hr.2 with q | q | q | q | q | q | q | q | q | q | q | q | q | q | q | q | q <;> rw [q] at h ⊢ <;> revert h <;> decide
theorem last_words {i : I5} (hn : numB i.op = true) (t : List UInt8) : lastW (wordsT i t) = t ∧ (wordsT i t).length = (regL i).length + 2 := by
  unfold lastW wordsT
  rw [hn]
  refine ⟨?_, by simp⟩
  rw [if_pos rfl, ← List.cons_append, List.getLast?_concat]
  rfl
theorem regL_len (i : I5) : (regL i).length = regsN i.op := by
  have := regsN_le3 i.op
  simp [regL]; omega
/-- A plain instruction uses no label. -/
theorem plain_uses {i : I5} (h : formedB i = true) : usesB (wordsT i (Lib.decDigits i.n.toNat)) = false := by
  obtain ⟨⟨h0, h1⟩, -⟩ := formed_facts h
  unfold usesB tpart
  rw [head_words, named_of h0 h1]
  have hop : ((i.op.toNat : Nat) : Int) = i.op := by omega
  cases ht : tgtB i.op
  · simp [hop, ht]
  · rw [(last_words (tgt_num ht) _).1, dec_nolab]; simp
theorem name_nocolon {i : I5} (h0 : 1 ≤ i.op) (h1 : i.op ≤ 17) : ((nms[i.op.toNat]?).getD []).getLast? ≠ some 58 := by
  rcases op17 h0 h1 with q | q | q | q | q | q | q | q | q | q | q | q | q | q | q | q | q <;> rw [q] <;> decide
theorem plain_line {i : I5} (h : formedB i = true) (hn0 : 0 ≤ i.n) (hn : i.n < 18446744073709551616) (r : Rd) (n : Nat) : lineR r n (toks (bodyL (textL i ++ [10]))) = some { r with code := r.code ++ [i] } := by
  obtain ⟨⟨h0, h1⟩, -⟩ := formed_facts h
  have lf := line_facts h0 h1 (dec_ne i.n.toNat) (dec_ok i.n.toNat)
  have hu := plain_uses h
  have hp := words_parse h hn0 hn
  rw [← line_text h, bodyL_line _ (fun c hc => (lf.2 c hc).2), lf.1]
  have e : wordsT i (Lib.decDigits i.n.toNat) = (nms[i.op.toNat]?).getD [] :: ((regL i).map (fun n => Lib.decDigits n.toNat) ++ (if numB i.op then [Lib.decDigits i.n.toNat] else [])) := rfl
  rw [e, lineR, if_neg (name_nocolon h0 h1), ← e]
  unfold insR zeroed useR
  rw [hu]
  simp [hp]
def plainF (L : List I5) : List UInt8 := L.flatMap fun i => textL i ++ [10]
theorem plain_flat (L : List I5) : plainL L = plainF L := by
  have : ∀ k, k ≤ L.length → plainK L k = plainF (L.take k) := by
    intro k
    induction k with
    | zero => intro _; simp [plainK, plainF]
    | succ k ih =>
      intro hk
      rw [plainK_succ (by omega), ih (by omega), List.take_succ_eq_append_getElem (by omega)]
      unfold plainF
      rw [List.flatMap_append]
      simp only [List.flatMap_cons, List.flatMap_nil, List.append_nil]
  have := this L.length (Nat.le_refl _)
  rw [List.take_length] at this
  exact this
theorem plain_readR : ∀ (L : List I5) (r : Rd) (n : Nat), (∀ i ∈ L, formedB i = true ∧ 0 ≤ i.n ∧ i.n < 18446744073709551616) → readR r n (linesL (plainF L)) = (n + L.length, some { r with code := r.code ++ L })
  | [], r, n, _ => by simp [plainF, linesL, readR]
  | i :: L, r, n, h => by
    obtain ⟨hf, hn0, hn⟩ := h i (by simp)
    obtain ⟨⟨h0, h1⟩, -⟩ := formed_facts hf
    have lf := line_facts h0 h1 (dec_ne i.n.toNat) (dec_ok i.n.toNat)
    rw [line_text hf] at lf
    have e : plainF (i :: L) = textL i ++ 10 :: plainF L := by simp [plainF]
    have ih := plain_readR L { r with code := r.code ++ [i] } (n + 1) (fun j hj => h j (by simp [hj]))
    rw [e, linesL_app _ _ (fun c hc => (lf.2 c hc).1), readR, plain_line hf hn0 hn]
    simp only
    rw [ih]
    simp
    omega
/-- A program's plain text is read as the program. -/
theorem plain_read (L : List I5) (h : ∀ i ∈ L, formedB i = true ∧ 0 ≤ i.n ∧ i.n < 18446744073709551616) : readT (plainL L) = (L.length, some (L, [])) := by
  unfold readT
  rw [plain_flat, plain_readR L _ _ h]
  simp [resR]
end Go.Proofs.YtppejcfghlpbjaaGreatDoor


/- What is listed is read: a program's list. No statement of the seat is proved here. -/
namespace Go.Proofs.YtppejcfghlpbjaaGreatDoor
open Go.RowKit Go.Shelf

theorem dec_inj {j k : Nat} (hj : j < 18446744073709551616) (hk : k < 18446744073709551616) (h : Lib.decDigits j = Lib.decDigits k) : j = k := by
  have h1 := decL_back j hj
  rw [h, decL_back k hk] at h1
  exact (Option.some.inj h1).symm
theorem place_inj {j k : Nat} (hj : j < 18446744073709551616) (hk : k < 18446744073709551616) (h : placeL j = placeL k) : j = k := by
  unfold placeL at h
  exact dec_inj hj hk (List.cons.inj h).2
theorem place_ok (k : Nat) : placeL k ≠ [] ∧ ∀ c ∈ placeL k, okC c = true := by
  refine ⟨by simp [placeL], fun c hc => ?_⟩
  unfold placeL at hc
  rcases List.mem_cons.1 hc with rfl | hc
  · decide
  · exact dec_ok k c hc
theorem nms_second : ∀ k : Fin 18, (((nms[k.val]?).getD [])[1]?).map (fun c => decide (48 ≤ c.toNat ∧ c.toNat ≤ 57)) ≠ some true := by decide
theorem place_lab (k : Nat) (hk : k < 18446744073709551616) : labB (placeL k) = true := by
  have hl := placeL_len k hk
  have hd := dec_ne k
  unfold labB
  have h1 : (1 ≤ (placeL k).length ∧ (placeL k).length ≤ 64) := ⟨by simp [placeL], by omega⟩
  have h2 : (((placeL k).head?).map lowB).getD false = true := by simp [placeL, lowB]
  have h3 : (placeL k).all signB = true := by
    rw [List.all_eq_true]
    intro c hc
    have := (place_ok k).2 c hc
    simp only [okC, Bool.or_eq_true, decide_eq_true_eq] at this
    simp only [signB, lowB, digB, Bool.or_eq_true, decide_eq_true_eq]
    rcases this with h | h
    · exact .inl (.inr h)
    · exact .inl (.inl h)
  have h4 : namedN (placeL k) = none := by
    cases hn : namedN (placeL k) with
    | none => rfl
    | some q =>
      exfalso
      obtain ⟨q0, q1, q2⟩ := namedN_forth hn
      have := nms_second ⟨q, by omega⟩
      simp only [q2] at this
      unfold placeL at this
      cases hx : Lib.decDigits k with
      | nil => exact hd hx
      | cons c t =>
        rw [hx] at this
        have hc := dec_mem k c (by rw [hx]; simp)
        simp [hc] at this
  rw [h2, h3, h4]
  simp [h1]

/-- An instruction whose target stands open. -/
def zN (n : Nat) (i : I5) : I5 := if aimB i n then { i with n := 0 } else i
def usesF (n : Nat) : Nat → List I5 → List (List UInt8 × Nat × Nat)
  | _, [] => []
  | k, i :: t => (if aimB i n then [(placeL i.n.toNat, k, k)] else []) ++ usesF n (k + 1) t
def marksF (f : Nat → Bool) : Nat → Nat → List (List UInt8 × Nat)
  | _, 0 => []
  | k, m + 1 => (if f k then [(placeL k, k)] else []) ++ marksF f (k + 1) m
def endP (L : List I5) : List UInt8 := if markB L L.length L.length then placeL L.length ++ [58, 10] else []
def piecesF (L : List I5) : Nat → List I5 → List UInt8
  | _, [] => endP L
  | k, i :: t => pieceL L k i ++ piecesF L (k + 1) t
theorem list_pieces (L : List I5) : listL L = piecesF L 0 L := by
  have : ∀ k, k ≤ L.length → listK L k ++ piecesF L k (L.drop k) = piecesF L 0 L := by
    intro k
    induction k with
    | zero => intro _; simp [listK]
    | succ k ih =>
      intro hk
      rw [← ih (by omega), listK_succ (by omega), List.drop_eq_getElem_cons (show k < L.length by omega), piecesF]
      simp
  have h := this L.length (Nat.le_refl _)
  rw [List.drop_length] at h
  exact h
theorem aim_facts {i : I5} {n : Nat} (h : aimB i n = true) : tgtB i.op = true ∧ i.n ≤ n := by
  rw [aim_eq] at h
  simpa using h
theorem open_formed {i : I5} (h : formedB i = true) (ht : tgtB i.op = true) : formedB { i with n := 0 } = true := by
  unfold formedB at h ⊢
  dsimp only
  simp only [Bool.and_eq_true] at h ⊢
  obtain ⟨⟨⟨⟨h1, _⟩, h3⟩, h4⟩, h5⟩ := h
  exact ⟨⟨⟨⟨h1, by rw [tgt_num ht]; rfl⟩, h3⟩, h4⟩, h5⟩
theorem dec_zero : Lib.decDigits 0 = [48] := by rw [Lib.decDigits_one (by decide)]; rfl
theorem ins_words {i : I5} (h : formedB i = true) (hn0 : 0 ≤ i.n) (hn : i.n < 18446744073709551616) (n : Nat) (r : Rd) (k : Nat) :
    insR r (wordsT i (if aimB i n then placeL i.n.toNat else Lib.decDigits i.n.toNat)) k = some { code := r.code ++ [zN n i], labs := r.labs, uses := r.uses ++ (if aimB i n then [(placeL i.n.toNat, r.code.length, k)] else []) } := by
  obtain ⟨⟨h0, h1⟩, -⟩ := formed_facts h
  cases ha : aimB i n
  · have hu := plain_uses h
    have hp := words_parse h hn0 hn
    simp only [if_neg (show ¬ (false = true) by decide)]
    unfold insR zeroed useR
    rw [hu]
    simp [hp, zN, ha]
  · obtain ⟨ht, hle⟩ := aim_facts ha
    have hnum := tgt_num ht
    have hlw := last_words hnum (placeL i.n.toNat)
    have hop : ((i.op.toNat : Nat) : Int) = i.op := by omega
    have hu : usesB (wordsT i (placeL i.n.toNat)) = true := by
      unfold usesB tpart
      rw [head_words, named_of h0 h1, hlw.1, place_lab _ (by omega), hlw.2, regL_len]
      simp [hop, ht]
    have hz : zeroed (wordsT i (placeL i.n.toNat)) = wordsT { i with n := 0 } (Lib.decDigits ({ i with n := 0 } : I5).n.toNat) := by
      unfold zeroed
      rw [hu, if_pos rfl, hlw.2]
      unfold wordsT regL
      dsimp only
      rw [hnum]
      simp only [if_true, Int.toNat_zero, dec_zero]
      have hl := regL_len i
      unfold regL at hl
      rw [hl, show regsN i.op + 2 - 1 = regsN i.op + 1 by omega, List.set_cons_succ]
      congr 1
      rw [List.set_append_right _ _ (by simp; omega)]
      simp only [List.length_map, hl, Nat.sub_self, List.set_cons_zero]
    have hp := words_parse (open_formed h ht) (by simp) (by simp)
    simp only [if_true]
    unfold insR useR
    rw [hz, hp, hu, hlw.1]
    simp [zN, ha]
theorem piece_line {L : List I5} {i : I5} (h : formedB i = true) (hn0 : 0 ≤ i.n) (hn : i.n < 18446744073709551616) (hL : L.length ≤ 65536) {k : Nat} (hk : k < L.length) (r : Rd) (hc : r.code.length = k) (hl : placeL k ∉ r.labs.map (·.1)) (X : List UInt8) :
    ∃ p, pieceL L k i = p ++ [10] ∧ linesL (pieceL L k i ++ X) = (p ++ [10]) :: linesL X ∧ lineR r k (toks (bodyL (p ++ [10]))) = some { code := r.code ++ [zN L.length i], labs := r.labs ++ (if markB L L.length k then [(placeL k, k)] else []), uses := r.uses ++ (if aimB i L.length then [(placeL i.n.toNat, k, k)] else []) } := by
  obtain ⟨⟨h0, h1⟩, -⟩ := formed_facts h
  have hT : (if aimB i L.length then namedL (textL i) else textL i) = lineL i (if aimB i L.length then placeL i.n.toNat else Lib.decDigits i.n.toNat) := by
    cases ha : aimB i L.length
    · simp only [if_neg (show ¬ (false = true) by decide)]; exact (line_text h).symm
    · simp only [if_true]; exact named_eq h (aim_facts ha).1
  have hIW := fun r' => ins_words h hn0 hn L.length r' k
  have hto : (if aimB i L.length then placeL i.n.toNat else Lib.decDigits i.n.toNat) ≠ [] ∧ ∀ c ∈ (if aimB i L.length then placeL i.n.toNat else Lib.decDigits i.n.toNat), okC c = true := by
    cases aimB i L.length
    · exact ⟨dec_ne _, dec_ok _⟩
    · exact place_ok _
  generalize (if aimB i L.length then placeL i.n.toNat else Lib.decDigits i.n.toNat) = t at *
  have lf := line_facts h0 h1 hto.1 hto.2
  have e : wordsT i t = (nms[i.op.toNat]?).getD [] :: ((regL i).map (fun n => Lib.decDigits n.toNat) ++ (if numB i.op then [t] else [])) := rfl
  have hIL : ∀ r', lineR r' k (wordsT i t) = insR r' (wordsT i t) k := fun r' => by
    rw [e, lineR, if_neg (name_nocolon h0 h1)]
  have po := place_ok k
  cases hm : markB L L.length k
  · refine ⟨lineL i t, ?_, ?_, ?_⟩
    · unfold pieceL; rw [hT, hm]; simp
    · unfold pieceL; rw [hT, hm]
      have := linesL_app (lineL i t) X (fun c hc => (lf.2 c hc).1)
      simpa using this
    · rw [bodyL_line _ (fun c hc => (lf.2 c hc).2), lf.1, hIL, hIW, hc]
      simp
  · refine ⟨placeL k ++ 58 :: 32 :: lineL i t, ?_, ?_, ?_⟩
    · unfold pieceL; rw [hT, hm]; simp
    · unfold pieceL; rw [hT, hm]
      have := linesL_app (placeL k ++ 58 :: 32 :: lineL i t) X (fun c hc => by
        rcases List.mem_append.1 hc with hc | hc
        · exact (okC_facts (po.2 c hc)).2.1
        · rcases List.mem_cons.1 hc with rfl | hc
          · decide
          · rcases List.mem_cons.1 hc with rfl | hc
            · decide
            · exact (lf.2 c hc).1)
      simpa using this
    · rw [bodyL_line _ (fun c hc => by
        rcases List.mem_append.1 hc with hc | hc
        · exact (okC_facts (po.2 c hc)).2.2.1
        · rcases List.mem_cons.1 hc with rfl | hc
          · decide
          · rcases List.mem_cons.1 hc with rfl | hc
            · decide
            · exact (lf.2 c hc).2), toks_colon _ _ (fun c hc => (okC_facts (po.2 c hc)).1) po.1, toks_blank, lf.1, lineR, if_pos (by simp), List.dropLast_concat]
      unfold standR
      rw [if_pos ⟨place_lab k (by omega), hl⟩]
      simp only [Option.bind_some]
      rw [hIL, hIW]
      simp [hc]
end Go.Proofs.YtppejcfghlpbjaaGreatDoor


/- A program's list is read as the program, its labels the places that are targets. No statement of the seat is proved here. -/
namespace Go.Proofs.YtppejcfghlpbjaaGreatDoor
open Go.RowKit Go.Shelf

theorem pieces_readR {L : List I5} (hL : L.length ≤ 65536) : ∀ (t : List I5) (k : Nat) (r : Rd), k + t.length = L.length → (∀ i ∈ t, formedB i = true ∧ 0 ≤ i.n ∧ i.n < 18446744073709551616) → r.code.length = k → (∀ x ∈ r.labs, ∃ j, j < k ∧ x.1 = placeL j) →
    readR r k (linesL (piecesF L k t)) = (L.length + (if markB L L.length L.length then 1 else 0), some { code := r.code ++ t.map (zN L.length), labs := r.labs ++ marksF (markB L L.length) k (t.length + 1), uses := r.uses ++ usesF L.length k t })
  | [], k, r, hk, _, hc, hl => by
    have hkL : k = L.length := by simpa using hk
    subst hkL
    have hnl : placeL L.length ∉ r.labs.map (·.1) := fun hm => by
      obtain ⟨x, hx, e⟩ := List.mem_map.1 hm
      obtain ⟨j, hj, e'⟩ := hl x hx
      have := place_inj (show j < 18446744073709551616 by omega) (show L.length < 18446744073709551616 by omega) (e'.symm.trans e)
      omega
    unfold piecesF endP
    cases hm : markB L L.length L.length
    · simp [linesL, readR, marksF, usesF, hm]
    · have po := place_ok L.length
      have hlin := linesL_app (placeL L.length ++ [58]) [] (fun c hc => by
        rcases List.mem_append.1 hc with hc | hc
        · exact (okC_facts (po.2 c hc)).2.1
        · obtain rfl : c = 58 := by simpa using hc
          decide)
      have e : placeL L.length ++ [58, 10] = placeL L.length ++ [58] ++ 10 :: [] := by simp
      simp only [if_true]
      rw [e, hlin, readR, bodyL_line _ (fun c hc => by
        rcases List.mem_append.1 hc with hc | hc
        · exact (okC_facts (po.2 c hc)).2.2.1
        · obtain rfl : c = 58 := by simpa using hc
          decide), toks_colon _ _ (fun c hc => (okC_facts (po.2 c hc)).1) po.1, toks_empty, lineR, if_pos (by simp), List.dropLast_concat]
      unfold standR
      rw [if_pos ⟨place_lab _ (by omega), hnl⟩]
      simp [lineR, linesL, readR, marksF, usesF, hm, hc]
  | i :: t, k, r, hk, hf, hc, hl => by
    obtain ⟨h1, h2, h3⟩ := hf i (by simp)
    have hkL : k < L.length := by simp at hk; omega
    have hnl : placeL k ∉ r.labs.map (·.1) := fun hm => by
      obtain ⟨x, hx, e⟩ := List.mem_map.1 hm
      obtain ⟨j, hj, e'⟩ := hl x hx
      have := place_inj (show j < 18446744073709551616 by omega) (show k < 18446744073709551616 by omega) (e'.symm.trans e)
      omega
    obtain ⟨p, _, q2, q3⟩ := piece_line h1 h2 h3 hL hkL r hc hnl (piecesF L (k + 1) t)
    rw [piecesF, q2, readR, q3]
    simp only
    rw [pieces_readR hL t (k + 1) _ (by simp at hk; omega) (fun j hj => hf j (by simp [hj])) (by simp [hc]) (fun x hx => by
      rcases List.mem_append.1 hx with hx | hx
      · obtain ⟨j, hj, e⟩ := hl x hx
        exact ⟨j, by omega, e⟩
      · cases hm : markB L L.length k
        · rw [hm] at hx; simp at hx
        · rw [hm] at hx
          obtain rfl : x = (placeL k, k) := by simpa using hx
          exact ⟨k, by omega, rfl⟩)]
    simp [marksF, usesF]

theorem marks_lookup {f : Nat → Bool} : ∀ (m k j : Nat), k ≤ j → j < k + m → j < 18446744073709551616 → f j = true → (marksF f k m).lookup (placeL j) = some j
  | 0, k, j, h0, h1, _, _ => by omega
  | m + 1, k, j, h0, h1, h2, h3 => by
    unfold marksF
    by_cases he : k = j
    · subst he
      rw [h3]
      simp
    · have ih := marks_lookup m (k + 1) j (by omega) (by omega) h2 h3
      have hne : (placeL j == placeL k) = false := by
        simp only [beq_eq_false_iff_ne]
        exact fun e => he (place_inj (by omega) h2 e.symm)
      cases f k
      · simpa using ih
      · simp only [if_true, List.cons_append, List.nil_append, List.lookup, hne]
        exact ih
theorem modify_mid {f : I5 → I5} {x : I5} {r : List I5} : ∀ pre : List I5, (pre ++ x :: r).modify pre.length f = pre ++ f x :: r
  | [] => by simp
  | c :: t => by simp [modify_mid t]
theorem mark_of_aim {L : List I5} {i : I5} (hi : i ∈ L) (h0 : 0 ≤ i.n) (ha : aimB i L.length = true) : markB L L.length i.n.toNat = true := by
  unfold markB
  rw [List.any_eq_true]
  exact ⟨i, hi, by rw [ha]; simp; omega⟩
theorem res_pieces {n : Nat} {labs : List (List UInt8 × Nat)} : ∀ (t : List I5) (pre : List I5), (∀ i ∈ t, 0 ≤ i.n ∧ (aimB i n = true → labs.lookup (placeL i.n.toNat) = some i.n.toNat)) → resR labs (pre ++ t.map (zN n)) (usesF n pre.length t) = (none, pre ++ t)
  | [], pre, _ => by simp [usesF, resR]
  | i :: t, pre, h => by
    obtain ⟨h1, h2⟩ := h i (by simp)
    have ih := res_pieces t (pre ++ [i]) (fun j hj => h j (by simp [hj]))
    simp only [List.length_append, List.length_cons, List.length_nil, Nat.zero_add] at ih
    unfold usesF
    cases ha : aimB i n
    · have hz : zN n i = i := by simp [zN, ha]
      simp only [if_neg (show ¬ (false = true) by decide), List.nil_append, List.map_cons, hz]
      simpa using ih
    · have hz : zN n i = { i with n := 0 } := by simp [zN, ha]
      simp only [if_true, List.cons_append, List.nil_append, List.map_cons, hz]
      unfold resR
      rw [h2 ha]
      simp only
      have hs : setN (pre ++ { i with n := 0 } :: t.map (zN n)) pre.length i.n.toNat = pre ++ [i] ++ t.map (zN n) := by
        unfold setN
        have e : ((i.n.toNat : Nat) : Int) = i.n := by omega
        rw [modify_mid]
        simp [e]
      rw [hs, ih]
      simp
/-- A program's list is read as the program. -/
theorem list_read (L : List I5) (hL : L.length ≤ 65536) (h : ∀ i ∈ L, formedB i = true ∧ 0 ≤ i.n ∧ i.n < 18446744073709551616) :
    readT (listL L) = (L.length + (if markB L L.length L.length then 1 else 0), some (L, marksF (markB L L.length) 0 (L.length + 1))) := by
  unfold readT
  rw [list_pieces, pieces_readR hL L 0 ⟨[], [], []⟩ (by simp) h rfl (fun x hx => by simp at hx)]
  simp only [List.nil_append]
  have hr := res_pieces (n := L.length) (labs := marksF (markB L L.length) 0 (L.length + 1)) L [] (fun i hi => ⟨(h i hi).2.1, fun ha => by
    have ham := aim_facts ha
    have h0 := (h i hi).2.1
    exact marks_lookup _ 0 i.n.toNat (Nat.zero_le _) (by omega) (by omega) (mark_of_aim hi h0 ha)⟩)
  simp only [List.nil_append, List.length_nil] at hr
  rw [hr]
end Go.Proofs.YtppejcfghlpbjaaGreatDoor


/- Walks of write and Text (package asm), and of the document's Same, CopyCode, KeptCode. No statement of the seat is proved here. -/
namespace Go.Proofs.YtppejcfghlpbjaaGreatDoor
open Go.RowKit Go.Shelf

set_option maxRecDepth 100000 in
set_option maxHeartbeats 8000000 in
theorem wcode_any (v : Value) (L : List I5) (hL : L.length ≤ 65536) (w0 : World) (hw : Gp w0) (h : InsAt w0 v L) (b : Nat) (l0 : List UInt8) (hl0 : l0.length ≤ 1099511627776) (w : World) (hk : Keeps (fun _ => False) w0 w) (hb : Bld w w0.heap.size b l0) :
    Calls Tryz.prog 20 #[.pointer (some ⟨b, 0, none⟩), v] w fun e w' => ((L.all formedB = true → e = .returned (.int .i64 0) ∧ Bld w' w0.heap.size b (l0 ++ plainL L)) ∧ (L.all formedB = false → e = .returned (.int .i64 180))) ∧ Keeps (fun _ => False) w0 w' := by
  have HI : Hid (∀ X, Keeps (fun _ => False) w0 X → InsAt X v L) := fun X k => h.keeps k
  have HW : Hid (∀ i ∈ L, i.wf) := h.wf
  obtain ⟨⟨a0, c0, rfl, _⟩, -, -⟩ := h
  have TXY := fun i hf h0 h1 X (hX : Keeps (fun _ => False) w0 X) => text_yes i hf h0 h1 X (hw.keeps hX).gl.nms
  have TXN := fun i hf (X : World) => text_no i hf X
  have hLi : (L.length : Int) ≤ 65536 := by omega
  obtain ⟨B, hB⟩ : ∃ B, B = w0.heap.size := ⟨_, rfl⟩
  rw [← hB] at hb ⊢
  have HB : Hid (B = w0.heap.size) := hB
  have S0 : Hid (Bld w B b l0 ∧ Keeps (fun _ => False) w0 w) := ⟨hb, hk⟩
  clear hB hb hk
  go_enter Tryz.func20, Tryz.ntmps20
  go_wp2_with fail
  go_loopw [11] (fun u wr => ∃ k : Nat, u = .int .i64 k ∧ k ≤ L.length ∧ Hid ((L.take k).all formedB = true ∧ (plainK L k).length ≤ 128 * k ∧ Bld wr B b (l0 ++ plainK L k) ∧ Keeps (fun _ => False) w0 wr)) (fun u _ => L.length - (intOf u).toNat)
  case atStart => exact ⟨0, rfl, Nat.zero_le _, ⟨by simp, by simp [plainK], by simpa [plainK] using S0.out.1, S0.out.2⟩⟩
  case round =>
    obtain ⟨k, rfl, hk, hP⟩ := hrel
    clear S0
    by_cases hlt : k < L.length
    · obtain ⟨ga, off, cap, hv, x0, x1, x2, x3, x4⟩ := (HI.out wr hP.out.2.2.2).at k hlt
      simp only [Value.slice.injEq] at hv
      obtain ⟨rfl, -, rfl⟩ := hv
      have hki : (k : Int) < L.length := by omega
      have hw5 := HW.out (L[k]) (List.getElem_mem hlt)
      have HP : Hid (plainK L (k + 1) = plainK L k ++ (textL (L[k]) ++ [10])) := plainK_succ hlt
      have HA : Hid (formedB (L[k]) = false → L.all formedB = false) := all_of_take hlt
      have HT : Hid (formedB (L[k]) = true → (L.take (k + 1)).all formedB = true) := take_all hlt hP.out.1
      generalize L[k]'hlt = i at *
      have ka := (Keeps.refl (fun _ => False) wr).alloc (.cells i.cells 45)
      have HS : Hid (Bld (wr.alloc (.cells i.cells 45)) B b (l0 ++ plainK L k) ∧ Keeps (fun _ => False) w0 (wr.alloc (.cells i.cells 45))) := ⟨hP.out.2.2.1.keeps ka, hP.out.2.2.2.trans ka⟩
      have hln := hP.out.2.1
      have hn0 := hw5.2.2.2.2.1
      have hn1 := hw5.2.2.2.2.2
      cases hform : formedB i
      · have hF := HA.out hform
        have TX := TXN i hform
        have kk := HS.out.2
        obtain ⟨op, a, bb, c, N⟩ := i
        dsimp only at x0 x1 x2 x3 x4
        clear hP HS HP HT HA ka TXY TXN
        go_wp2_with fail
        refine (TX _).mono ?_
        rintro e X ⟨rfl, kX⟩
        have kkX := kk.trans kX
        clear TX
        go_wp2_with fail
        go_ret
        exact ⟨⟨fun hq => (by rw [hF] at hq; cases hq), fun _ => rfl⟩, kkX⟩
      · have hal := HT.out hform
        have htl := text_len hform hn0 hn1
        have TX := TXY i hform hn0 hn1 _ HS.out.2
        have hK : Hid (l0 ++ plainK L k ++ (textL i ++ [10]) = l0 ++ plainK L (k + 1) ∧ (plainK L (k + 1)).length ≤ 128 * (k + 1)) := ⟨by rw [HP.out]; simp, by rw [HP.out]; simp only [List.length_append, List.length_cons, List.length_nil]; omega⟩
        have HWZ : Hid (∀ X, Keeps (fun _ => False) (wr.alloc (.cells i.cells 45)) X → Calls Tryz.prog 19 #[.pointer (some ⟨b, 0, none⟩), .string (⟨(textL i).toArray⟩ ++ ⟨#[10]⟩)] X fun e X' => (∃ n, e = .returned (.tuple #[.int .i64 n, .nilIface])) ∧ Bld X' B b (l0 ++ plainK L (k + 1)) ∧ Keeps (fun _ => False) w0 X') := fun X kX => by
          have := str_app (textL i) [10]
          rw [this]
          refine (write_any _ _ _ b X (HS.out.1.keeps kX) (by simp only [List.length_append, List.length_cons, List.length_nil]; omega)).mono fun e X' ⟨h1, h2, h3, _⟩ => ⟨h1, ?_, ?_⟩
          · rw [← hK.out.1]; exact h2
          · exact keeps_upon (HS.out.2.trans kX) (by rw [← HB.out]; exact h3)
        have hKl := hK.out.2
        clear hK HP HA HT hP
        have tm2 : ¬ 9223372036854775807 < (textL i).length + 1 := by omega
        generalize textL i = tx at *
        obtain ⟨op, a, bb, c, N⟩ := i
        dsimp only at x0 x1 x2 x3 x4
        clear TXY TXN ka
        go_wp2_with fail
        refine TX.mono ?_
        rintro e X ⟨rfl, kX⟩
        have WZ := HWZ.out X kX
        clear TX HWZ HS
        go_wp2_with fail
        refine WZ.mono ?_
        rintro e X' ⟨⟨n, rfl⟩, hb', kX'⟩
        clear WZ
        have FI : Hid ((L.take (k + 1)).all formedB = true ∧ (plainK L (k + 1)).length ≤ 128 * (k + 1) ∧ Bld X' B b (l0 ++ plainK L (k + 1)) ∧ Keeps (fun _ => False) w0 X') := ⟨hal, hKl, hb', kX'⟩
        clear hb' kX'
        go_wp2_with fail
        go_roundw
        · exact ⟨k + 1, by simp, by omega, FI⟩
        · simp [intOf]; omega
    · obtain rfl : k = L.length := by omega
      obtain ⟨h1, h2, h3, h4⟩ := hP.out
      rw [List.take_length] at h1
      have h3' : Hid (Bld wr B b (l0 ++ plainL L)) := h3
      clear HI TXY TXN hP h3
      go_wp2_with fail
      go_ret
      exact ⟨⟨fun _ => ⟨rfl, h3'.out⟩, fun hq => (by rw [h1] at hq; cases hq)⟩, h4⟩

end Go.Proofs.YtppejcfghlpbjaaGreatDoor


/- Walks of the document's Same, CopyCode, KeptCode; the law's walk over a program. No statement of the seat is proved here. -/
namespace Go.Proofs.YtppejcfghlpbjaaGreatDoor
open Go.RowKit Go.Shelf

set_option maxRecDepth 100000 in
set_option maxHeartbeats 4000000 in
theorem rsame_any (va vb : Value) (L : List I5) (hL : L.length ≤ 1048576) (w : World) (ha : InsAt w va L) (hb : InsAt w vb L) : Calls Tryz.prog 28 #[va, vb] w fun e w' => e = .returned (.bool true) ∧ Keeps (fun _ => False) w w' := by
  have HA : Hid (∀ X, Keeps (fun _ => False) w X → InsAt X va L) := fun X k => ha.keeps k
  have HB : Hid (∀ X, Keeps (fun _ => False) w X → InsAt X vb L) := fun X k => hb.keeps k
  have k0 := Keeps.refl (fun _ => False) w
  obtain ⟨⟨a0, c0, rfl, _⟩, -, -⟩ := ha
  obtain ⟨⟨a1, c1, rfl, _⟩, -, -⟩ := hb
  go_enter Tryz.func28, Tryz.ntmps28
  go_wp2_with fail
  go_loopw [5] (fun u wr => ∃ (k : Nat), u = .int .i64 k ∧ k ≤ L.length ∧ Keeps (fun _ => False) w wr) (fun u _ => L.length - (intOf u).toNat)
  case atStart => exact ⟨0, rfl, Nat.zero_le _, k0⟩
  case round =>
    obtain ⟨k, rfl, hk, kr⟩ := hrel
    by_cases hlt : k < L.length
    · obtain ⟨ga, off, cap, hv, x0, x1, x2, x3, x4⟩ := (HA.out wr kr).at k hlt
      simp only [Value.slice.injEq] at hv
      obtain ⟨rfl, -, rfl⟩ := hv
      obtain ⟨gb, offb, capb, hv, y0, y1, y2, y3, y4⟩ := (HB.out wr kr).at k hlt
      simp only [Value.slice.injEq] at hv
      obtain ⟨rfl, -, rfl⟩ := hv
      have hki : (k : Int) < L.length := by omega
      generalize L[k]'hlt = i at *
      obtain ⟨op, a, b, c, N⟩ := i
      dsimp only at x0 x1 x2 x3 x4 y0 y1 y2 y3 y4
      go_wp2_with fail
      go_quiet (fail)
      go_wp2_with fail
      go_roundw
      · exact ⟨k + 1, by simp, by omega, kr.drewN _⟩
      · simp [intOf]; omega
    · obtain rfl : k = L.length := by omega
      go_wp2_with fail
      go_ret
      exact ⟨rfl, kr⟩

def marksC : List I5 := [⟨99, 0, 0, 0, 0⟩, ⟨98, 0, 0, 0, 0⟩]
theorem InsAt.prefix {w : World} {a : Option Addr} {n cap : Nat} {L M : List I5} (h : InsAt w (.slice a n cap) (L ++ M)) : InsAt w (.slice a L.length cap) L := by
  obtain ⟨⟨a', c', hv, hc⟩, h2, h3⟩ := h
  simp only [Value.slice.injEq] at hv
  obtain ⟨rfl, rfl, rfl⟩ := hv
  refine ⟨⟨a, cap, rfl, fun k hk => ?_⟩, fun i hi => h2 i (List.mem_append_left _ hi), ?_⟩
  · obtain ⟨g, off, e, q⟩ := hc k (by simp; omega)
    rw [List.getElem_append_left hk] at q
    exact ⟨g, off, e, q⟩
  · simp at h3; omega
set_option maxRecDepth 100000 in
set_option maxHeartbeats 4000000 in
theorem rcopy_any (v : Value) (L : List I5) (hL : L.length ≤ 1048576) (w : World) (h : InsAt w v L) : Calls Tryz.prog 16 #[v] w fun e w' => (∃ g cap, e = .returned (.slice (some ⟨g, 0, none⟩) L.length cap) ∧ InsAt w' (.slice (some ⟨g, 0, none⟩) (L.length + 2) cap) (L ++ marksC) ∧ L.length + 2 ≤ cap ∧ w.heap.size ≤ g) ∧ Keeps (fun _ => False) w w' := by
  have hwf := h.wf
  obtain ⟨v1, w1, r1, i1, g1⟩ := (Irs.nil w).app v L h (by simp; omega)
  rw [List.nil_append] at i1
  have k1 := Irs.kept g1 (Keeps.refl (fun _ => False) w) (Irs.nil w)
  have ka := (Keeps.refl (fun _ => False) w1).alloc (.cells #[.int .i64 99, .int .i64 0, .int .i64 0, .int .i64 0, .int .u64 0, .int .i64 98, .int .i64 0, .int .i64 0, .int .i64 0, .int .u64 0] 45)
  have b0 := (MapKept.heap_alloc w1 (.cells #[.int .i64 99, .int .i64 0, .int .i64 0, .int .i64 0, .int .u64 0, .int .i64 98, .int .i64 0, .int .i64 0, .int .i64 0, .int .u64 0] 45)).1
  have IB : InsAt (w1.alloc (.cells #[.int .i64 99, .int .i64 0, .int .i64 0, .int .i64 0, .int .u64 0, .int .i64 98, .int .i64 0, .int .i64 0, .int .i64 0, .int .u64 0] 45)) (.slice (some ⟨w1.heap.size, 0, none⟩) 2 2) marksC := by
    refine ⟨⟨_, 2, rfl, fun k hk => ⟨_, 0, rfl, ?_⟩⟩, by intro i hi; simp [marksC] at hi; rcases hi with rfl | rfl <;> (unfold I5.wf; decide), by simp [marksC]⟩
    rcases (by simp [marksC] at hk; omega : k = 0 ∨ k = 1) with rfl | rfl
    · refine ⟨?_, ?_, ?_, ?_, ?_⟩ <;> (rw [cell_of_block b0]; rfl)
    · refine ⟨?_, ?_, ?_, ?_, ?_⟩ <;> (rw [cell_of_block b0]; rfl)
  have i1' := i1.keeps ka (fun _ _ f => f)
  obtain ⟨v2, w2, r2, i2, g2⟩ := i1'.app _ marksC IB (by simp [marksC]; omega)
  have k2 := Irs.kept g2 (k1.trans ka) i1'
  have hin := i2.insAt (fun i hi => by
    rcases List.mem_append.1 hi with hi | hi
    · exact hwf i hi
    · exact IB.wf i hi) (by simp [marksC]; omega)
  have hl2 : (L ++ marksC).length = L.length + 2 := by simp [marksC]
  obtain ⟨g, cap, rfl, hcap, hg⟩ : ∃ g cap, v2 = .slice (some ⟨g, 0, none⟩) (L.length + 2) cap ∧ L.length + 2 ≤ cap ∧ w.heap.size ≤ g := by
    rcases i2.own.2 with ⟨rfl, h2⟩ | ⟨g, cap, cur, rfl, q1, q2, q3, q4, q5, q6⟩
    · simp [marksC] at h2
    · exact ⟨g, cap, by rw [hl2], by rw [hl2] at q3; exact q3, q1⟩
  obtain ⟨⟨a0, c0, rfl, _⟩, -, -⟩ := h
  have HA : Hid _ := r1
  have HB : Hid _ := r2
  clear r1 r2
  have hc1 : (L.length : Int) ≤ cap := by omega
  clear i1 g1 b0 IB i1' i2 g2 ka k1 hwf
  go_enter Tryz.func16, Tryz.ntmps16
  go_wp2_with (at_builtin; first | (refine wpList_append_run rfl _ _ 42 rfl rfl rfl HA.out ?_; clear HA) | (refine wpList_append_run rfl _ _ 42 rfl rfl rfl HB.out ?_; clear HB))
  go_ret
  exact ⟨⟨g, cap, rfl, hin, hcap, hg⟩, k2⟩
set_option maxRecDepth 100000 in
set_option maxHeartbeats 4000000 in
theorem rkept_any (v : Value) (L : List I5) (hL : L.length ≤ 1048576) (g cap : Nat) (hcap : L.length + 2 ≤ cap) (w : World) (h : InsAt w v L) (hc : InsAt w (.slice (some ⟨g, 0, none⟩) (L.length + 2) cap) (L ++ marksC)) :
    Calls Tryz.prog 25 #[.slice (some ⟨g, 0, none⟩) L.length cap, v] w fun e w' => e = .returned (.bool true) ∧ Keeps (fun _ => False) w w' := by
  have SM := rsame_any _ v L hL w hc.prefix h
  have HC : Hid (∀ X, Keeps (fun _ => False) w X → X.cell? ⟨g, L.length * 5, none⟩ = some (.int .i64 99) ∧ X.cell? ⟨g, (L.length + 1) * 5, none⟩ = some (.int .i64 98)) := fun X kX => by
    have hX := hc.keeps kX
    obtain ⟨g', o', c', hv, q, _⟩ := hX.at L.length (by simp [marksC])
    obtain ⟨g'', o'', c'', hv', q', _⟩ := hX.at (L.length + 1) (by simp [marksC])
    simp only [Value.slice.injEq, Option.some.injEq, Addr.mk.injEq, and_true] at hv hv'
    obtain ⟨⟨rfl, rfl⟩, -, -⟩ := hv
    obtain ⟨⟨rfl, rfl⟩, -, -⟩ := hv'
    simp [marksC] at q q'
    exact ⟨q, q'⟩
  obtain ⟨⟨a0, c0, rfl, _⟩, -, -⟩ := h
  have hc1 : (L.length : Int) + 2 ≤ cap := by omega
  clear hc
  go_enter Tryz.func25, Tryz.ntmps25
  go_wp2_with fail
  refine SM.mono ?_
  rintro e w1 ⟨rfl, k1⟩
  obtain ⟨q1, q2⟩ := HC.out w1 k1
  clear SM HC
  go_wp2_with fail
  go_ret
  exact ⟨rfl, k1⟩
end Go.Proofs.YtppejcfghlpbjaaGreatDoor


/- Labels where they lie; the law's walk over what is written and read. No statement of the seat is proved here. -/
namespace Go.Proofs.YtppejcfghlpbjaaGreatDoor
open Go.RowKit Go.Shelf

theorem labV_at : ∀ (M : List (List UInt8 × Nat)) (k : Nat) (hk : k < M.length), (labV M)[k * 2 + 1]? = some (.int .i64 ((M[k]).2 : Int))
  | x :: t, 0, _ => by simp [labV]
  | x :: t, k + 1, hk => by
    have := labV_at t k (by simpa using hk)
    have e : labV (x :: t) = [keyV x.1, .int .i64 (x.2 : Int)] ++ labV t := by simp [labV]
    rw [e, List.getElem?_append_right (by simp; omega)]
    simp only [List.length_cons, List.length_nil, List.getElem_cons_succ]
    rw [← this]
    congr 1
    omega
/-- Labels' places where they lie. -/
structure LabAt (w : World) (v : Value) (M : List (List UInt8 × Nat)) : Prop where
  form : ∃ a cap, v = .slice a M.length cap ∧ ∀ k (hk : k < M.length), ∃ g off, a = some ⟨g, off, none⟩ ∧ w.cell? ⟨g, off + k * 2 + 1, none⟩ = some (.int .i64 ((M[k]'hk).2 : Int))
theorem LabAt.keeps {w w' : World} {v : Value} {M : List (List UInt8 × Nat)} (h : LabAt w v M) (k : Keeps (fun _ => False) w w') : LabAt w' v M := by
  obtain ⟨a, cap, rfl, hc⟩ := h
  refine ⟨⟨a, cap, rfl, fun j hj => ?_⟩⟩
  obtain ⟨g, off, rfl, c0⟩ := hc j hj
  have hg : g < w.heap.size := World.block_lt_of_cell? _ _ c0
  have hb := k.block g hg (fun f => f)
  exact ⟨g, off, rfl, by rw [← c0]; simp [World.cell?, hb]⟩
theorem lab_of_own {w : World} {base : Nat} {v : Value} {M : List (List UInt8 × Nat)} (h : w.ownsRow base 157 2 v M.length (labV M)) : LabAt w v M := by
  rcases h.2 with ⟨rfl, h2⟩ | ⟨g, cap, cur, rfl, h1, h2, h3, h4, h5, h6⟩
  · exact ⟨⟨none, 0, by rw [h2], fun k hk => by omega⟩⟩
  · refine ⟨⟨_, cap, rfl, fun k hk => ⟨g, 0, rfl, ?_⟩⟩⟩
    rw [cell_of_block h2, Nat.zero_add, ← labV_at M k hk, ← h6, List.getElem?_take_of_lt (by omega)]
    simp
theorem LabAt.at {w : World} {v : Value} {M : List (List UInt8 × Nat)} (h : LabAt w v M) (k : Nat) (hk : k < M.length) : ∃ g off cap, v = .slice (some ⟨g, off, none⟩) M.length cap ∧ w.cell? ⟨g, off + k * 2 + 1, none⟩ = some (.int .i64 ((M[k]).2 : Int)) := by
  obtain ⟨a, cap, rfl, hc⟩ := h
  obtain ⟨g, off, rfl, q⟩ := hc k hk
  exact ⟨g, off, cap, rfl, q⟩

/-- A label that stands is the place of a target. -/
theorem marks_mem {f : Nat → Bool} : ∀ (m k : Nat), ∀ x ∈ marksF f k m, x.1 = placeL x.2 ∧ k ≤ x.2 ∧ x.2 < k + m ∧ f x.2 = true
  | 0, _, x, h => by simp [marksF] at h
  | m + 1, k, x, h => by
    unfold marksF at h
    rcases List.mem_append.1 h with h | h
    · cases hf : f k
      · rw [hf] at h; simp at h
      · rw [hf] at h
        obtain rfl : x = (placeL k, k) := by simpa using h
        exact ⟨rfl, Nat.le_refl _, by omega, hf⟩
    · obtain ⟨h1, h2, h3, h4⟩ := marks_mem m (k + 1) x h
      exact ⟨h1, by omega, by omega, h4⟩
theorem marks_end {f : Nat → Bool} : ∀ (m k : Nat), (marksF f k (m + 1)).any (fun x => decide (x.2 = k + m)) = f (k + m)
  | 0, k => by
    simp only [marksF, List.append_nil, Nat.add_zero]
    cases f k <;> simp
  | m + 1, k => by
    have ih := marks_end (f := f) m (k + 1)
    rw [marksF, List.any_append]
    have e : (fun x : List UInt8 × Nat => decide (x.2 = k + 1 + m)) = (fun x => decide (x.2 = k + (m + 1))) := by funext x; congr 1; simp only [eq_iff_iff]; omega
    rw [e] at ih
    rw [ih, show k + 1 + m = k + (m + 1) by omega]
    cases f k <;> simp
end Go.Proofs.YtppejcfghlpbjaaGreatDoor


/- What the document's Read has, as it lies; walks of Place and SameLabels (package parleyref09). No statement of the seat is proved here. -/
namespace Go.Proofs.YtppejcfghlpbjaaGreatDoor
open Go.RowKit Go.Shelf

/-- Two rows share no block. -/
def apt (a b : Value) : Prop := ∀ g, a.ownBlock = some g → b.ownBlock ≠ some g
theorem apt.symm {a b : Value} (h : apt a b) : apt b a := fun g hb ha => h g ha hb
theorem apt.grew {w w' : World} {v v' x : Value} (ha : apt v x) (h : Grew w w' v v') (hx : ∀ g, x.ownBlock = some g → g < w.heap.size) : apt v' x := fun g hv hxg => by
  rcases h.own with q | q
  · exact ha g (q ▸ hv) hxg
  · have := q g hv; have := hx g hxg; omega
theorem apt.none (x : Value) : apt (.slice none 0 0) x := fun g hg => by cases hg
theorem apt.row {w w' : World} {v v' x : Value} {base size : Nat} {e : TypeId} {n : Nat} {xs : List Value} (ha : apt v x) (h : Grew w w' v v') (hx : w.ownsRow base e size x n xs) : w'.ownsRow base e size x n xs :=
  own_keeps hx h.keeps (fun g hg f => ha g f hg)
theorem kept_grew {w0 w w' : World} {v v' : Value} (hg : Grew w w' v v') (k : Keeps (fun _ => False) w0 w) (hb : ∀ g, v.ownBlock = some g → w0.heap.size ≤ g) : Keeps (fun _ => False) w0 w' :=
  ⟨hg.keeps.os.trans k.os, hg.keeps.tape.trans k.tape, hg.keeps.output.trans k.output, Nat.le_trans k.size hg.keeps.size, fun g hgg hs => (hg.keeps.block g (Nat.lt_of_lt_of_le hgg k.size) fun e => by
    have := hb g e; omega).trans (k.block g hgg hs)⟩

/-- The five rows of Read. -/
structure DR (w : World) (base : Nat) (vp vl vn va vi : Value) (r : Rd) : Prop where
  code : Irs w base vp r.code
  labs : w.ownsRow base 157 2 vl r.labs.length (labV r.labs)
  names : Strs w base vn (r.uses.map fun u => u.1)
  ats : w.ownsRow base 3 1 va r.uses.length (r.uses.map fun u => .int .i64 (u.2.1 : Int))
  ins : w.ownsRow base 3 1 vi r.uses.length (r.uses.map fun u => .int .i64 (u.2.2 : Int))
  wf : ∀ i ∈ r.code, i.wf
  pl : apt vp vl
  pn : apt vp vn
  pa : apt vp va
  pi : apt vp vi
  ln : apt vl vn
  la : apt vl va
  li : apt vl vi
  na : apt vn va
  ni : apt vn vi
  ai : apt va vi
theorem DR.nil (w : World) : DR w w.heap.size (.slice none 0 0) (.slice none 0 0) (.slice none 0 0) (.slice none 0 0) (.slice none 0 0) ⟨[], [], []⟩ :=
  ⟨Irs.nil w, ⟨rfl, .inl ⟨rfl, rfl⟩⟩, Strs.nil w, ⟨rfl, .inl ⟨rfl, rfl⟩⟩, ⟨rfl, .inl ⟨rfl, rfl⟩⟩, by simp, apt.none _, apt.none _, apt.none _, apt.none _, apt.none _, apt.none _, apt.none _, apt.none _, apt.none _, apt.none _⟩
theorem DR.keeps {w w' : World} {base : Nat} {vp vl vn va vi : Value} {r : Rd} (h : DR w base vp vl vn va vi r) (k : Keeps (fun _ => False) w w') : DR w' base vp vl vn va vi r :=
  ⟨h.code.keeps k (fun _ _ f => f), own_keeps h.labs k (fun _ _ f => f), h.names.keeps k (fun _ _ f => f), own_keeps h.ats k (fun _ _ f => f), own_keeps h.ins k (fun _ _ f => f), h.wf, h.pl, h.pn, h.pa, h.pi, h.ln, h.la, h.li, h.na, h.ni, h.ai⟩
theorem info_int1 : (Tryz.prog.info? 3).map (fun i => (i.zero, i.size, i.bytes)) = some (some (.int .i64 0), 1, 8) := by kernel_rfl
/-- A label more. -/
theorem DR.lab {w w0 : World} {vp vl vn va vi : Value} {r : Rd} (h : DR w w0.heap.size vp vl vn va vi r) (k : Keeps (fun _ => False) w0 w) (x : List UInt8) (hb : r.labs.length ≤ 1048576) :
    ∃ vl' w', (Builtin.append_ #[78, 78] 78 #[vl, .slice (some ⟨w.heap.size, 0, none⟩) 1 1]).run Tryz.prog (w.alloc (.cells #[.string ⟨x.toArray⟩, .int .i64 (r.code.length : Int)] 157)) = .ok vl' w' ∧
      DR w' w0.heap.size vp vl' vn va vi { r with labs := r.labs ++ [(x, r.code.length)] } ∧ Keeps (fun _ => False) w0 w' := by
  obtain ⟨v', w', h1, h2, h3⟩ := own_push1 (P := Tryz.prog) w w0.heap.size 78 78 157 _ 2 24 Tryz.underlying78 info_lab rfl (by decide) vl r.labs.length _ h.labs [.string ⟨x.toArray⟩, .int .i64 (r.code.length : Int)] rfl (by simp [Value.oneCell']) (by omega) (by decide) k.size
  have ow := fun {v : Value} {e : TypeId} {size n : Nat} {xs : List Value} (q : w.ownsRow w0.heap.size e size v n xs) => fun g (e : v.ownBlock = some g) => (own_block q e).1
  refine ⟨v', w', h1, ⟨⟨h.pl.symm.row h3 h.code.own, Nat.le_trans h.code.base h3.keeps.size⟩, by simpa [labV, keyV] using h2, ⟨h.ln.row h3 h.names.own, Nat.le_trans h.names.base h3.keeps.size⟩, h.la.row h3 h.ats, h.li.row h3 h.ins, h.wf, (h.pl.symm.grew h3 (ow h.code.own)).symm, h.pn, h.pa, h.pi, h.ln.grew h3 (ow h.names.own), h.la.grew h3 (ow h.ats), h.li.grew h3 (ow h.ins), h.na, h.ni, h.ai⟩, ?_⟩
  exact kept_grew h3 k (fun g e => (own_block h.labs e).2)
/-- An instruction more. -/
theorem DR.ins1 {w w0 : World} {vp vl vn va vi : Value} {r : Rd} (h : DR w w0.heap.size vp vl vn va vi r) (k : Keeps (fun _ => False) w0 w) (i : I5) (hi : i.wf) (hb : r.code.length ≤ 1048576) :
    ∃ vp' w', (Builtin.append_ #[42, 42] 42 #[vp, .slice (some ⟨w.heap.size, 0, none⟩) 1 1]).run Tryz.prog (w.alloc (.cells #[.int .i64 i.op, .int .i64 i.a, .int .i64 i.b, .int .i64 i.c, .int .u64 i.n] 45)) = .ok vp' w' ∧
      DR w' w0.heap.size vp' vl vn va vi { r with code := r.code ++ [i] } ∧ Keeps (fun _ => False) w0 w' := by
  obtain ⟨v', w', h1, h2, h3⟩ := h.code.push2 i hi (by omega)
  have ow := fun {v : Value} {e : TypeId} {size n : Nat} {xs : List Value} (q : w.ownsRow w0.heap.size e size v n xs) => fun g (e : v.ownBlock = some g) => (own_block q e).1
  refine ⟨v', w', h1, ⟨h2, h.pl.row h3 h.labs, ⟨h.pn.row h3 h.names.own, Nat.le_trans h.names.base h3.keeps.size⟩, h.pa.row h3 h.ats, h.pi.row h3 h.ins, fun j hj => ?_, h.pl.grew h3 (ow h.labs), h.pn.grew h3 (ow h.names.own), h.pa.grew h3 (ow h.ats), h.pi.grew h3 (ow h.ins), h.ln, h.la, h.li, h.na, h.ni, h.ai⟩, ?_⟩
  · rcases List.mem_append.1 hj with hj | hj
    · exact h.wf j hj
    · simp only [List.mem_singleton] at hj; subst hj; exact hi
  · exact kept_grew h3 k (fun g e => (own_block h.code.own e).2)
/-- A use of a label more. -/
theorem DR.use {w w0 : World} {vp vl vn va vi : Value} {r : Rd} (h : DR w w0.heap.size vp vl vn va vi r) (k : Keeps (fun _ => False) w0 w) (x : List UInt8) (a n : Nat) (hb : r.uses.length ≤ 1048576) :
    ∃ vn' w1 va' w2 vi' w3, (Builtin.append_ #[106, 106] 106 #[vn, .slice (some ⟨w.heap.size, 0, none⟩) 1 1]).run Tryz.prog (w.alloc (.cells #[.string ⟨x.toArray⟩] 9)) = .ok vn' w1 ∧
      (Builtin.append_ #[56, 56] 56 #[va, .slice (some ⟨w1.heap.size, 0, none⟩) 1 1]).run Tryz.prog (w1.alloc (.cells #[.int .i64 (a : Int)] 3)) = .ok va' w2 ∧
      (Builtin.append_ #[56, 56] 56 #[vi, .slice (some ⟨w2.heap.size, 0, none⟩) 1 1]).run Tryz.prog (w2.alloc (.cells #[.int .i64 (n : Int)] 3)) = .ok vi' w3 ∧
      DR w3 w0.heap.size vp vl vn' va' vi' { r with uses := r.uses ++ [(x, a, n)] } ∧ Keeps (fun _ => False) w0 w3 ∧
      (∀ g, g < w.heap.size → vn.ownBlock ≠ some g → va.ownBlock ≠ some g → vi.ownBlock ≠ some g → w3.heap[g]? = w.heap[g]?) := by
  obtain ⟨vn', w1, a1, a2, a3⟩ := h.names.push x (by simp; omega)
  have k1 := kept_grew a3 k (fun g e => (own_block h.names.own e).2)
  have at1 := h.na.row a3 h.ats
  have in1 := h.ni.row a3 h.ins
  have co1 := h.pn.symm.row a3 h.code.own
  have la1 := h.ln.symm.row a3 h.labs
  obtain ⟨va', w2, b1, b2, b3⟩ := own_push1 (P := Tryz.prog) w1 w0.heap.size 56 56 3 _ 1 8 Tryz.underlying56 info_int1 rfl (by decide) va r.uses.length _ at1 [.int .i64 (a : Int)] rfl (by simp [Value.oneCell']) (by omega) (by decide) k1.size
  have k2 := kept_grew b3 k1 (fun g e => (own_block at1 e).2)
  have n1a : apt va vn' := ((h.na.grew a3 (fun g e => (own_block h.ats e).1))).symm
  have nm2 : w2.ownsRow w0.heap.size 9 1 vn' (r.uses.map (fun u => u.1) ++ [x]).length ((r.uses.map (fun u => u.1) ++ [x]).map keyV) := n1a.row b3 a2.own
  have in2 := h.ai.row b3 in1
  have co2 := h.pa.symm.row b3 co1
  have la2 := h.la.symm.row b3 la1
  obtain ⟨vi', w3, c1, c2, c3⟩ := own_push1 (P := Tryz.prog) w2 w0.heap.size 56 56 3 _ 1 8 Tryz.underlying56 info_int1 rfl (by decide) vi r.uses.length _ in2 [.int .i64 (n : Int)] rfl (by simp [Value.oneCell']) (by omega) (by decide) k2.size
  have k3 := kept_grew c3 k2 (fun g e => (own_block in2 e).2)
  have pn' : apt vn' vp := h.pn.symm.grew a3 (fun g e => (own_block h.code.own e).1)
  have ln' : apt vn' vl := h.ln.symm.grew a3 (fun g e => (own_block h.labs e).1)
  have ni' : apt vn' vi := h.ni.grew a3 (fun g e => (own_block h.ins e).1)
  have pa' : apt va' vp := h.pa.symm.grew b3 (fun g e => (own_block co1 e).1)
  have la' : apt va' vl := h.la.symm.grew b3 (fun g e => (own_block la1 e).1)
  have na' : apt va' vn' := n1a.grew b3 (fun g e => (own_block a2.own e).1)
  have ai' : apt va' vi := h.ai.grew b3 (fun g e => (own_block in1 e).1)
  have at3 : w3.ownsRow w0.heap.size 3 1 va' (r.uses.length + 1) _ := ai'.symm.row c3 b2
  have nm3 := ni'.symm.row c3 nm2
  have co3 := h.pi.symm.row c3 co2
  have la3 := h.li.symm.row c3 la2
  refine ⟨vn', w1, va', w2, vi', w3, a1, b1, c1, ⟨⟨co3, k3.size⟩, la3, ⟨by simpa using nm3, k3.size⟩, by simpa using at3, by simpa using c2, h.wf, h.pl, pn'.symm, pa'.symm, (h.pi.symm.grew c3 (fun g e => (own_block co2 e).1)).symm, ln'.symm, la'.symm, (h.li.symm.grew c3 (fun g e => (own_block la2 e).1)).symm, na'.symm, (ni'.symm.grew c3 (fun g e => (own_block nm2 e).1)).symm, (ai'.symm.grew c3 (fun g e => (own_block b2 e).1)).symm⟩, k3, fun g hg e1 e2 e3 => ?_⟩
  exact (c3.keeps.block g (Nat.lt_of_lt_of_le (Nat.lt_of_lt_of_le hg a3.keeps.size) b3.keeps.size) e3).trans ((b3.keeps.block g (Nat.lt_of_lt_of_le hg a3.keeps.size) e2).trans (a3.keeps.block g hg e1))

theorem row1_at {w : World} {base : Nat} {e : TypeId} {v : Value} {n : Nat} {xs : List Value} (h : w.ownsRow base e 1 v n xs) (hn : 0 < n) : ∃ g cap, v = .slice (some ⟨g, 0, none⟩) n cap ∧ n ≤ cap ∧ ∀ k u, k < n → xs[k]? = some u → w.cell? ⟨g, k, none⟩ = some u := by
  rcases h.2 with ⟨rfl, h2⟩ | ⟨g, cap, cur, rfl, h1, h2, h3, h4, h5, h6⟩
  · omega
  · refine ⟨g, cap, rfl, h3, fun k u hk hu => ?_⟩
    rw [cell_of_block h2]
    rw [← h6, List.getElem?_take_of_lt (by omega)] at hu
    simpa using hu
/-- A use of a label, as it lies. -/
theorem DR.at {W : World} {base : Nat} {vp vl vn va vi : Value} {r : Rd} (h : DR W base vp vl vn va vi r) (k : Nat) (hk : k < r.uses.length) :
    ∃ gn cn ga ca gi ci, vn = .slice (some ⟨gn, 0, none⟩) r.uses.length cn ∧ va = .slice (some ⟨ga, 0, none⟩) r.uses.length ca ∧ vi = .slice (some ⟨gi, 0, none⟩) r.uses.length ci ∧ r.uses.length ≤ cn ∧ r.uses.length ≤ ca ∧ r.uses.length ≤ ci ∧
      W.cell? ⟨gn, k, none⟩ = some (.string ⟨(r.uses[k]).1.toArray⟩) ∧ W.cell? ⟨ga, k, none⟩ = some (.int .i64 ((r.uses[k]).2.1 : Int)) ∧ W.cell? ⟨gi, k, none⟩ = some (.int .i64 ((r.uses[k]).2.2 : Int)) := by
  have hp : 0 < r.uses.length := by omega
  have hn := h.names.own
  rw [List.length_map] at hn
  obtain ⟨gn, cn, e1, l1, c1⟩ := row1_at hn hp
  obtain ⟨ga, ca, e2, l2, c2⟩ := row1_at h.ats hp
  obtain ⟨gi, ci, e3, l3, c3⟩ := row1_at h.ins hp
  exact ⟨gn, cn, ga, ca, gi, ci, e1, e2, e3, l1, l2, l3, c1 k _ hk (by simp [hk, keyV]), c2 k _ hk (by simp [hk]), c3 k _ hk (by simp [hk])⟩
/-- A label's place laid into its instruction. -/
theorem DR.setN {W w0 : World} {vp vl vn va vi : Value} {r : Rd} (h : DR W w0.heap.size vp vl vn va vi r) (k : Keeps (fun _ => False) w0 W) (a : Nat) (ha : a < r.code.length) (p : Nat) (hp : p < 18446744073709551616) :
    ∃ g cap x, vp = .slice (some ⟨g, 0, none⟩) r.code.length cap ∧ W.cell? ⟨g, a * 5 + 4, none⟩ = some x ∧ W.frozen? ⟨g, a * 5 + 4, none⟩ = false ∧
      DR (W.setCell ⟨g, a * 5 + 4, none⟩ (.int .u64 (p : Int))) w0.heap.size vp vl vn va vi { r with code := setN r.code a p } ∧ Keeps (fun _ => False) w0 (W.setCell ⟨g, a * 5 + 4, none⟩ (.int .u64 (p : Int))) := by
  obtain ⟨g, cap, x, h1, h2, h3, h4, h5⟩ := h.code.setN a ha p
  have ks : Keeps (fun k => k = g) W (W.setCell ⟨g, a * 5 + 4, none⟩ (.int .u64 (p : Int))) := (Keeps.refl (fun k => k = g) W).setCell (p := ⟨g, a * 5 + 4, none⟩) (.inr rfl) _
  have hg := (own_block h.code.own h2).2
  have ne : ∀ {v : Value}, apt vp v → ∀ q, v.ownBlock = some q → ¬ q = g := fun hv q e f => by subst f; exact hv q h2 e
  refine ⟨g, cap, x, h1, h3, h4, ⟨h5, own_keeps h.labs ks (ne h.pl), ⟨own_keeps h.names.own ks (ne h.pn), Nat.le_trans h.names.base ks.size⟩, own_keeps h.ats ks (ne h.pa), own_keeps h.ins ks (ne h.pi), setN_wf h.wf hp, h.pl, h.pn, h.pa, h.pi, h.ln, h.la, h.li, h.na, h.ni, h.ai⟩, ?_⟩
  exact k.setCell (p := ⟨g, a * 5 + 4, none⟩) (.inl hg) _

/-- Labels where they lie, with their names. -/
structure LabN (w : World) (v : Value) (M : List (List UInt8 × Nat)) : Prop where
  form : ∃ a cap, v = .slice a M.length cap ∧ ∀ k (hk : k < M.length), ∃ g off, a = some ⟨g, off, none⟩ ∧ w.cell? ⟨g, off + k * 2, none⟩ = some (.string ⟨(M[k]'hk).1.toArray⟩) ∧ w.cell? ⟨g, off + k * 2 + 1, none⟩ = some (.int .i64 ((M[k]'hk).2 : Int))
theorem LabN.keeps {w w' : World} {v : Value} {M : List (List UInt8 × Nat)} (h : LabN w v M) (k : Keeps (fun _ => False) w w') : LabN w' v M := by
  obtain ⟨a, cap, rfl, hc⟩ := h
  refine ⟨⟨a, cap, rfl, fun j hj => ?_⟩⟩
  obtain ⟨g, off, rfl, c0, c1⟩ := hc j hj
  have hg : g < w.heap.size := World.block_lt_of_cell? _ _ c0
  have hb := k.block g hg (fun f => f)
  exact ⟨g, off, rfl, by rw [← c0]; simp [World.cell?, hb], by rw [← c1]; simp [World.cell?, hb]⟩
theorem labV_at0 : ∀ (M : List (List UInt8 × Nat)) (k : Nat) (hk : k < M.length), (labV M)[k * 2]? = some (keyV (M[k]).1) ∧ (labV M)[k * 2 + 1]? = some (.int .i64 ((M[k]).2 : Int))
  | [], k, hk => absurd hk (by simp)
  | q :: M, 0, _ => ⟨rfl, rfl⟩
  | q :: M, k + 1, hk => by
    have h := labV_at0 M k (by simpa using hk)
    have e : labV (q :: M) = [keyV q.1, .int .i64 (q.2 : Int)] ++ labV M := rfl
    rw [e, List.getElem?_append_right (by simp; omega), List.getElem?_append_right (by simp; omega)]
    have e1 : (k + 1) * 2 - [keyV q.1, Value.int .i64 (q.2 : Int)].length = k * 2 := by simp; omega
    have e2 : (k + 1) * 2 + 1 - [keyV q.1, Value.int .i64 (q.2 : Int)].length = k * 2 + 1 := by simp; omega
    rw [e1, e2]
    simpa using h
theorem labN_of_own {w : World} {base : Nat} {v : Value} {M : List (List UInt8 × Nat)} (h : w.ownsRow base 157 2 v M.length (labV M)) : LabN w v M := by
  rcases h.2 with ⟨rfl, h2⟩ | ⟨g, cap, cur, rfl, h1, h2, h3, h4, h5, h6⟩
  · exact ⟨⟨none, 0, by rw [h2], fun k hk => by omega⟩⟩
  · refine ⟨⟨_, cap, rfl, fun k hk => ⟨g, 0, rfl, ?_, ?_⟩⟩⟩
    · rw [cell_of_block h2, Nat.zero_add]
      have := (labV_at0 M k hk).1
      rw [← h6, List.getElem?_take_of_lt (by omega)] at this
      simpa [keyV] using this
    · rw [cell_of_block h2, Nat.zero_add]
      have := (labV_at0 M k hk).2
      rw [← h6, List.getElem?_take_of_lt (by omega)] at this
      simpa using this
theorem LabN.at {w : World} {v : Value} {M : List (List UInt8 × Nat)} (h : LabN w v M) (k : Nat) (hk : k < M.length) : ∃ g off cap, v = .slice (some ⟨g, off, none⟩) M.length cap ∧ w.cell? ⟨g, off + k * 2, none⟩ = some (.string ⟨(M[k]'hk).1.toArray⟩) ∧ w.cell? ⟨g, off + k * 2 + 1, none⟩ = some (.int .i64 ((M[k]).2 : Int)) := by
  obtain ⟨a, cap, rfl, hc⟩ := h
  obtain ⟨g, off, rfl, q⟩ := hc k hk
  exact ⟨g, off, cap, rfl, q⟩

end Go.Proofs.YtppejcfghlpbjaaGreatDoor


/- The document's way to read an instruction out of parts, against the program's: pure facts. No statement of the seat is proved here. -/
namespace Go.Proofs.YtppejcfghlpbjaaGreatDoor
open Go.RowKit Go.Shelf

theorem numM_full (x : List UInt8) : numM 18446744073709551615 x = decL x := by
  unfold numM
  cases hd : decL x with
  | none => rfl
  | some n =>
    have := decL_lt hd
    simp only [Option.bind_some]
    rw [if_pos (by omega)]
theorem numM_seven {x : List UInt8} {n : Nat} (h : numM 7 x = some n) : decL x = some n ∧ n ≤ 7 := by
  unfold numM at h
  cases hd : decL x with
  | none => rw [hd] at h; cases h
  | some m =>
    rw [hd] at h
    simp only [Option.bind_some] at h
    split at h
    · cases h; exact ⟨rfl, by assumption⟩
    · cases h
theorem numM_no7 {x : List UInt8} (h : numM 7 x = none) : decL x = none ∨ ∃ m, decL x = some m ∧ 7 < m := by
  unfold numM at h
  cases hd : decL x with
  | none => exact .inl rfl
  | some m =>
    rw [hd] at h
    simp only [Option.bind_some] at h
    split at h
    · cases h
    · exact .inr ⟨m, rfl, by omega⟩
def rgv (ws : List (List UInt8)) (j : Nat) : Option Nat := numM 7 ((ws[j]?).getD [])
def rgn (ws : List (List UInt8)) (m j : Nat) : Nat := if j < m then (rgv ws j).getD 0 else 0
theorem rgv_some {ws : List (List UInt8)} {j : Nat} (h : (rgv ws j).isSome = true) : ∃ n, decL ((ws[j]?).getD []) = some n ∧ n ≤ 7 ∧ rgv ws j = some n := by
  cases hr : rgv ws j with
  | none => rw [hr] at h; cases h
  | some n =>
    obtain ⟨h1, h2⟩ := numM_seven hr
    exact ⟨n, h1, h2, rfl⟩
theorem rgn_le (ws : List (List UInt8)) (m j : Nat) : rgn ws m j ≤ 7 := by
  unfold rgn
  split
  · cases hr : rgv ws j with
    | none => simp
    | some n => exact (numM_seven hr).2
  · omega
theorem pz {h : List UInt8} {ws : List (List UInt8)} {k : Nat} (hn : namedN h = some k) (hl : ws.length = partsN k) : parseW (h :: ws) = match decAll ws with
    | none => none
    | some N => if regOk k N then some (insOf k N) else none := by
  rw [parseW, hn]
  dsimp only
  rw [if_pos hl]
  rfl
theorem uses_eq {h : List UInt8} {ws : List (List UInt8)} {k : Nat} (hn : namedN h = some k) (hl : ws.length = partsN k) : usesB (h :: ws) = (tgtB k && labB (lastW (h :: ws))) := by
  unfold usesB tpart
  simp only [List.head?_cons, Option.getD_some, hn, List.length_cons, Nat.add_sub_cancel]
  cases ht : tgtB k
  · simp
  · have hnum : numB (k : Int) = true := by
      have h1 : 1 ≤ (k : Int) ∧ (k : Int) ≤ 17 := by obtain ⟨a, b, _⟩ := namedN_forth hn; omega
      rcases op17 h1.1 h1.2 with q | q | q | q | q | q | q | q | q | q | q | q | q | q | q | q | q <;> rw [q] at ht ⊢ <;> revert ht <;> decide
    have : ws.length = regsN k + 1 := by rw [hl]; simp [partsN, hnum]
    simp [this]
theorem shapes5 {k : Nat} (h0 : 1 ≤ k) (h1 : k ≤ 17) : (regsN k = 0 ∧ numB k = false ∧ tgtB k = false) ∨ (regsN k = 0 ∧ numB k = true) ∨ (regsN k = 1 ∧ numB k = true) ∨ (regsN k = 2 ∧ numB k = false ∧ tgtB k = false) ∨ (regsN k = 3 ∧ numB k = false ∧ tgtB k = false) := by
  rcases op17 (op := (k : Int)) (by omega) (by omega) with hq | hq | hq | hq | hq | hq | hq | hq | hq | hq | hq | hq | hq | hq | hq | hq | hq <;> rw [hq] <;> decide
theorem dec48 : decL [48] = some 0 := by decide
/-- How an instruction is read out of parts, as the document reads it. -/
structure InsDoc (l : List (List UInt8)) (k : Nat) (ws : List (List UInt8)) : Prop where
  bad : ∀ j, j < regsN k → rgv ws j = none → parseW (zeroed l) = none
  plain : (∀ j, j < regsN k → (rgv ws j).isSome = true) → numB k = false → parseW (zeroed l) = some ⟨k, rgn ws (regsN k) 0, rgn ws (regsN k) 1, rgn ws (regsN k) 2, 0⟩ ∧ usesB l = false
  label : (∀ j, j < regsN k → (rgv ws j).isSome = true) → numB k = true → tgtB k = true → labB (lastW l) = true → parseW (zeroed l) = some ⟨k, rgn ws (regsN k) 0, rgn ws (regsN k) 1, rgn ws (regsN k) 2, 0⟩ ∧ usesB l = true
  num : (∀ j, j < regsN k → (rgv ws j).isSome = true) → numB k = true → (tgtB k && labB (lastW l)) = false → ∀ n : Nat, decL (lastW l) = some n → parseW (zeroed l) = some ⟨k, rgn ws (regsN k) 0, rgn ws (regsN k) 1, rgn ws (regsN k) 2, n⟩ ∧ usesB l = false
  none : numB k = true → (tgtB k && labB (lastW l)) = false → decL (lastW l) = none → parseW (zeroed l) = none
theorem ins_doc {h : List UInt8} {ws : List (List UInt8)} {k : Nat} (hn : namedN h = some k) (hl : ws.length = partsN k) : InsDoc (h :: ws) k ws := by
  obtain ⟨h0, h1, _⟩ := namedN_forth hn
  have hu := uses_eq hn hl
  rcases shapes5 h0 h1 with ⟨hr, hb, ht⟩ | ⟨hr, hb⟩ | ⟨hr, hb⟩ | ⟨hr, hb, ht⟩ | ⟨hr, hb, ht⟩
  · obtain rfl : ws = [] := by simpa [hr, hb, partsN] using hl
    rw [ht] at hu
    have hz : zeroed [h] = [h] := by unfold zeroed; rw [hu]; rfl
    have hp := pz hn hl
    refine ⟨fun j hj => (by omega), fun _ _ => ⟨?_, by rw [hu]; rfl⟩, fun _ h => (by rw [hb] at h; cases h), fun _ h => (by rw [hb] at h; cases h), fun h => (by rw [hb] at h; cases h)⟩
    rw [hz, hp]
    simp [decAll, regOk, insOf, hr, hb, rgn]
  · obtain ⟨x, rfl⟩ : ∃ x, ws = [x] := List.length_eq_one_iff.1 (by simpa [hr, hb, partsN] using hl)
    have hlw : lastW [h, x] = x := rfl
    rw [hlw] at hu
    refine ⟨fun j hj => (by omega), fun _ h => (by rw [hb] at h; cases h), fun _ _ ht hlab => ?_, fun _ _ hq n hd => ?_, fun _ hq hd => ?_⟩
    · rw [hlw] at hlab
      have hz : zeroed [h, x] = [h, [48]] := by unfold zeroed; rw [hu, ht, hlab]; rfl
      refine ⟨?_, by rw [hu, ht, hlab]; rfl⟩
      rw [hz, pz hn (by simpa using hl)]
      simp [decAll, dec48, regOk, insOf, hr, hb, rgn]
    · rw [hlw] at hq hd
      have hz : zeroed [h, x] = [h, x] := by unfold zeroed; rw [hu, hq]; rfl
      refine ⟨?_, by rw [hu, hq]⟩
      rw [hz, pz hn hl]
      simp [decAll, hd, regOk, insOf, hr, hb, rgn]
    · rw [hlw] at hq hd
      have hz : zeroed [h, x] = [h, x] := by unfold zeroed; rw [hu, hq]; rfl
      rw [hz, pz hn hl]
      simp [decAll, hd]
  · obtain ⟨x, y, rfl⟩ : ∃ x y, ws = [x, y] := by
      have : ws.length = 2 := by simpa [hr, hb, partsN] using hl
      match ws, this with
      | [x, y], _ => exact ⟨x, y, rfl⟩
    have hlw : lastW [h, x, y] = y := rfl
    rw [hlw] at hu
    have hzz : ∀ b, (tgtB k && labB y) = b → zeroed [h, x, y] = [h, x, if b then [48] else y] := fun b e => by
      unfold zeroed
      rw [hu, e]
      cases b <;> rfl
    have hl' : ∀ y' : List UInt8, [x, y'].length = partsN k := fun _ => hl
    refine ⟨fun j hj hv => ?_, fun _ h => (by rw [hb] at h; cases h), fun hA _ ht hlab => ?_, fun hA _ hq n hd => ?_, fun _ hq hd => ?_⟩
    · obtain rfl : j = 0 := by omega
      rw [hzz _ rfl, pz hn (hl' _)]
      have hv' : numM 7 x = Option.none := hv
      generalize (if (tgtB k && labB y) = true then [48] else y) = y'
      rcases numM_no7 hv' with hd | ⟨m, hd, hm⟩
      · simp [decAll, hd]
      · cases hy : decL y' with
        | none => simp [decAll, hd, hy]
        | some q => simp [decAll, hd, hy, regOk, hr]; omega
    · rw [hlw] at hlab
      obtain ⟨n, hd, hle, hv⟩ := rgv_some (hA 0 (by omega))
      have hd' : decL x = some n := hd
      refine ⟨?_, by rw [hu, ht, hlab]; rfl⟩
      rw [hzz true (by rw [ht, hlab]; rfl), pz hn (hl' _)]
      simp [decAll, hd', dec48, regOk, insOf, hr, hb, rgn, hv]
      omega
    · rw [hlw] at hq hd
      obtain ⟨m, hd2, hle, hv⟩ := rgv_some (hA 0 (by omega))
      have hd' : decL x = some m := hd2
      refine ⟨?_, by rw [hu, hq]⟩
      rw [hzz false hq, pz hn (hl' _)]
      simp [decAll, hd', hd, regOk, insOf, hr, hb, rgn, hv]
      omega
    · rw [hlw] at hq hd
      rw [hzz false hq, pz hn (hl' _)]
      cases hx : decL x with
      | none => simp [decAll, hx]
      | some q => simp [decAll, hx, hd]
  · obtain ⟨x, y, rfl⟩ : ∃ x y, ws = [x, y] := by
      have : ws.length = 2 := by simpa [hr, hb, partsN] using hl
      match ws, this with
      | [x, y], _ => exact ⟨x, y, rfl⟩
    rw [ht] at hu
    have hz : zeroed [h, x, y] = [h, x, y] := by unfold zeroed; rw [hu]; rfl
    have hp := pz hn hl
    refine ⟨fun j hj hv => ?_, fun hA _ => ⟨?_, by rw [hu]; rfl⟩, fun _ h => (by rw [hb] at h; cases h), fun _ h => (by rw [hb] at h; cases h), fun h => (by rw [hb] at h; cases h)⟩
    · rw [hz, hp]
      rcases (by omega : j = 0 ∨ j = 1) with rfl | rfl
      · have hv' : numM 7 x = Option.none := hv
        rcases numM_no7 hv' with hd | ⟨m, hd, hm⟩
        · simp [decAll, hd]
        · cases hy : decL y with
          | none => simp [decAll, hd, hy]
          | some q => simp [decAll, hd, hy, regOk, hr]; omega
      · have hv' : numM 7 y = Option.none := hv
        cases hx : decL x with
        | none => simp [decAll, hx]
        | some q =>
          rcases numM_no7 hv' with hd | ⟨m, hd, hm⟩
          · simp [decAll, hx, hd]
          · simp [decAll, hx, hd, regOk, hr]; omega
    · obtain ⟨m, hd, hle, hv⟩ := rgv_some (hA 0 (by omega))
      obtain ⟨n, hd2, hle2, hv2⟩ := rgv_some (hA 1 (by omega))
      have e1 : decL x = some m := hd
      have e2 : decL y = some n := hd2
      rw [hz, hp]
      simp [decAll, e1, e2, regOk, insOf, hr, hb, rgn, hv, hv2]
      omega
  · obtain ⟨x, y, z, rfl⟩ : ∃ x y z, ws = [x, y, z] := by
      have : ws.length = 3 := by simpa [hr, hb, partsN] using hl
      match ws, this with
      | [x, y, z], _ => exact ⟨x, y, z, rfl⟩
    rw [ht] at hu
    have hz : zeroed [h, x, y, z] = [h, x, y, z] := by unfold zeroed; rw [hu]; rfl
    have hp := pz hn hl
    refine ⟨fun j hj hv => ?_, fun hA _ => ⟨?_, by rw [hu]; rfl⟩, fun _ h => (by rw [hb] at h; cases h), fun _ h => (by rw [hb] at h; cases h), fun h => (by rw [hb] at h; cases h)⟩
    · rw [hz, hp]
      have key : ∃ v ∈ [x, y, z], numM 7 v = Option.none := by
        rcases (by omega : j = 0 ∨ j = 1 ∨ j = 2) with rfl | rfl | rfl
        · exact ⟨x, by simp, hv⟩
        · exact ⟨y, by simp, hv⟩
        · exact ⟨z, by simp, hv⟩
      obtain ⟨v, hm, hv'⟩ := key
      cases hD : decAll [x, y, z] with
      | none => rfl
      | some N =>
        dsimp only
        rw [if_neg]
        intro hc
        obtain ⟨a, b, c, hx, hy, hzz, rfl⟩ : ∃ a b c : Nat, decL x = some a ∧ decL y = some b ∧ decL z = some c ∧ N = [(a : Int), b, c] := by
          cases hx : decL x with
          | none => simp [decAll, hx] at hD
          | some a =>
            cases hy : decL y with
            | none => simp [decAll, hx, hy] at hD
            | some b =>
              cases hzz : decL z with
              | none => simp [decAll, hx, hy, hzz] at hD
              | some c =>
                simp [decAll, hx, hy, hzz] at hD
                exact ⟨a, b, c, rfl, rfl, rfl, hD.symm⟩
        simp [regOk, hr] at hc
        rcases numM_no7 hv' with hd | ⟨m, hd, hm7⟩
        · simp only [List.mem_cons, List.not_mem_nil, or_false] at hm
          rcases hm with rfl | rfl | rfl
          · rw [hx] at hd; cases hd
          · rw [hy] at hd; cases hd
          · rw [hzz] at hd; cases hd
        · simp only [List.mem_cons, List.not_mem_nil, or_false] at hm
          rcases hm with rfl | rfl | rfl
          · rw [hx] at hd; cases hd; omega
          · rw [hy] at hd; cases hd; omega
          · rw [hzz] at hd; cases hd; omega
    · obtain ⟨m, hd, hle, hv⟩ := rgv_some (hA 0 (by omega))
      obtain ⟨n, hd2, hle2, hv2⟩ := rgv_some (hA 1 (by omega))
      obtain ⟨q, hd3, hle3, hv3⟩ := rgv_some (hA 2 (by omega))
      have e1 : decL x = some m := hd
      have e2 : decL y = some n := hd2
      have e3 : decL z = some q := hd3
      rw [hz, hp]
      simp [decAll, e1, e2, e3, regOk, insOf, hr, hb, rgn, hv, hv2, hv3]
      omega
/-- No name, or not as many parts as it has: no instruction. -/
theorem ins_noname {h : List UInt8} {ws : List (List UInt8)} (hn : namedN h = none) : parseW (zeroed (h :: ws)) = none := by
  have hu : usesB (h :: ws) = false := by unfold usesB tpart; simp [hn]
  unfold zeroed
  rw [hu]
  simp [parseW, hn]
theorem ins_nolen {h : List UInt8} {ws : List (List UInt8)} {k : Nat} (hn : namedN h = some k) (hl : ws.length ≠ partsN k) : parseW (zeroed (h :: ws)) = none := by
  have : ∀ ws' : List (List UInt8), ws'.length = ws.length → parseW (h :: ws') = none := fun ws' e => by
    rw [parseW, hn]
    dsimp only
    rw [if_neg (by rw [e]; exact hl)]
  unfold zeroed
  split
  · rename_i hu
    have hpos : 1 ≤ ws.length := by
      cases ws with
      | nil =>
        exfalso
        unfold usesB tpart at hu
        simp [hn] at hu
      | cons a t => simp
    rw [show (h :: ws).length - 1 = (ws.length - 1) + 1 by simp; omega, List.set_cons_succ]
    exact this _ (by simp)
  · exact this ws rfl
end Go.Proofs.YtppejcfghlpbjaaGreatDoor
