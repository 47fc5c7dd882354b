
/- Walks of the document's parts and number (package parleyref08). No statement of the seat is proved here. -/
import Derived.Test.YtepigjbnpkpanaaDoorRfH
import Derived.Laws.Strings3
namespace Go.Proofs.YtepigjbnpkpanaaDoor
open Go.RowKit Go.Shelf

theorem info_str : (Tryd.prog.info? 9).map (fun i => (i.zero, i.size, i.bytes)) = some (some (.string ByteArray.empty), 1, 16) := by kernel_rfl
def strV (l : List UInt8) : Value := .string ⟨l.toArray⟩
/-- A row of texts of the call's own. -/
structure Strs (w : World) (base : Nat) (v : Value) (L : List (List UInt8)) : Prop where
  own : w.ownsRow base 9 1 v L.length (L.map strV)
  base : base ≤ w.heap.size
theorem Strs.nil (w : World) : Strs w w.heap.size (.slice none 0 0) [] := ⟨⟨rfl, .inl ⟨rfl, rfl⟩⟩, Nat.le_refl _⟩
theorem Strs.keeps {w w' : World} {base : Nat} {v : Value} {L : List (List UInt8)} {S : Nat → Prop} (h : Strs w base v L) (k : Keeps S w w') (hs : ∀ g, v.ownBlock = some g → ¬ S g) : Strs w' base v L :=
  ⟨own_keeps h.own k hs, Nat.le_trans h.base k.size⟩
theorem Strs.push {w : World} {base : Nat} {v : Value} {L : List (List UInt8)} (h : Strs w base v L) (x : List UInt8) (hb : L.length + 1 ≤ 1048578) :
    ∃ v' w', (Builtin.append_ #[74, 74] 74 #[v, .slice (some ⟨w.heap.size, 0, none⟩) 1 1]).run Tryd.prog (w.alloc (.cells #[.string ⟨x.toArray⟩] 9)) = .ok v' w' ∧ Strs w' base v' (L ++ [x]) ∧ Grew w w' v v' := by
  have k0 := (Keeps.refl (fun _ => False) w).alloc (.cells #[.string ⟨x.toArray⟩] 9)
  have h0 := h.keeps k0 (fun _ _ f => f)
  obtain ⟨v', w', h1, h2, h3, h4⟩ := own_push (P := Tryd.prog) (w.alloc (.cells #[.string ⟨x.toArray⟩] 9)) base 74 74 9 (.string ByteArray.empty) 1 16 Tryd.underlying74 info_str rfl (by decide) v L.length _ h0.own ⟨w.heap.size, 0, none⟩ 1 1 [.string ⟨x.toArray⟩] rfl (fun j u hj => by
    match j with
    | 0 => simp at hj; subst hj; rw [addr_add, cell_of_block (MapKept.heap_alloc _ _).1]; rfl
    | j + 1 => simp at hj) (by simp [Value.oneCell']) (by omega) (by decide) h0.base
  refine ⟨v', w', h1, ⟨by simpa [strV] using h2, Nat.le_trans h0.base h3.size⟩, Grew.ahead k0 ⟨(Keeps.refl _ _).grown h3 fun k hk => .inr hk, h4⟩⟩
theorem Strs.kept {w wr w' : World} {u u' : Value} {X : List (List UInt8)} (h : Grew wr w' u u') (k : Keeps (fun _ => False) w wr) (hb : Strs wr w.heap.size u X) : Keeps (fun _ => False) w w' :=
  ⟨h.keeps.os.trans k.os, h.keeps.tape.trans k.tape, h.keeps.output.trans k.output, Nat.le_trans k.size h.keeps.size, fun g hg hs => (h.keeps.block g (Nat.lt_of_lt_of_le hg k.size) fun e => by
    have := (own_block hb.own e).2; omega).trans (k.block g hg hs)⟩
theorem Strs.form {w : World} {base : Nat} {v : Value} {L : List (List UInt8)} (h : Strs w base v L) (hne : L ≠ []) : ∃ g cap, v = .slice (some ⟨g, 0, none⟩) L.length cap ∧ L.length ≤ cap ∧ g < w.heap.size ∧ base ≤ g ∧ ∀ k (hk : k < L.length), w.cell? ⟨g, k, none⟩ = some (.string ⟨(L[k]).toArray⟩) := by
  rcases h.own.2 with ⟨rfl, h2⟩ | ⟨g, cap, cur, rfl, h1, h2, h3, h4, h5, h6⟩
  · exact absurd (List.length_eq_zero_iff.1 h2) hne
  · refine ⟨g, cap, rfl, h3, lt_of_block h2, h1, fun k hk => ?_⟩
    rw [cell_of_block h2]
    have : (cur.toList.take (L.length * 1))[k]? = some (strV (L[k])) := by rw [h6]; simp [hk]
    rw [List.getElem?_take_of_lt (by omega)] at this
    simpa [strV] using this

theorem cut_str (l : List UInt8) (a b : Nat) : (⟨l.toArray⟩ : ByteArray).extract a b = ⟨((l.drop a).take (b - a)).toArray⟩ := ByteArray.extract_mk l a b
theorem at_str (l : List UInt8) (k : Nat) (h : k < l.length) : (⟨l.toArray⟩ : ByteArray)[k]? = some l[k] := by
  rw [ByteArray.getElem?_lt' _ _ (by simpa [ByteArray.size] using h)]
  rfl

set_option maxRecDepth 100000 in
set_option maxHeartbeats 4000000 in
theorem rparts_any (l : List UInt8) (hl : l.length ≤ 1048576) (w : World) : Calls Tryd.prog 45 #[.string ⟨l.toArray⟩] w fun e w' => ∃ v, e = .returned v ∧ Strs w' w.heap.size v (pcs l) ∧ Keeps (fun _ => False) w w' := by
  have hsz : (⟨l.toArray⟩ : ByteArray).size = l.length := by simp [ByteArray.size]
  go_enter Tryd.func45, Tryd.ntmps45
  go_wp2_with fail
  go_loopw [3, 4, 5] (fun u v1 v2 wr => ∃ (f i : Nat) (done : List (List UInt8)), v1 = .int .i64 f ∧ v2 = .int .i64 i ∧ f ≤ i ∧ i ≤ l.length ∧ Hid (Strs wr w.heap.size u done ∧ Keeps (fun _ => False) w wr ∧ done.length ≤ i ∧ pcs l = done ++ pcs (l.drop f) ∧ (32 : UInt8) ∉ (l.drop f).take (i - f))) (fun _ _ v _ => l.length - (intOf v).toNat)
  case atStart => exact ⟨0, 0, [], rfl, rfl, Nat.le_refl _, Nat.zero_le _, ⟨Strs.nil w, Keeps.refl _ _, by simp, by simp, by simp⟩⟩
  case round =>
    obtain ⟨f, i, done, rfl, rfl, hfi, hil, hh⟩ := hrel
    by_cases hlt : i < l.length
    · have hli : (i : Int) < l.length := by omega
      have hs : i < (⟨l.toArray⟩ : ByteArray).size := by rw [hsz]; exact hlt
      have hat : ((⟨l.toArray⟩ : ByteArray)[i]'hs).toNat = (l[i]).toNat := rfl
      by_cases hc : l[i] = 32
      · obtain ⟨q1, q2, q3, q4, q5⟩ := hh.out
        obtain ⟨v1, w1, r1, r2, r3⟩ := q1.push ((l.drop f).take (i - f)) (by omega)
        have HR : Hid (_ = _) := r1
        have hcut := cut_str l f i
        have hfl : (f : Int) ≤ i := by omega
        have hil' : (i : Int) ≤ l.length := by omega
        rw [hc, show (32 : UInt8).toNat = 32 from rfl] at hat
        have KK := Strs.kept r3 q2 q1
        clear q1 q2 q3 q4 q5 r1 r3
        go_wp2_with (at_builtin; refine wpList_append_run rfl _ _ 74 rfl rfl rfl HR.out ?_)
        go_roundw
        · obtain ⟨q1, q2, q3, q4, q5⟩ := hh.out
          refine ⟨i + 1, i + 1, done ++ [(l.drop f).take (i - f)], by simp, by simp, Nat.le_refl _, by omega, ⟨r2, KK, by simp; omega, ?_, by simp⟩⟩
          have e : l.drop f = (l.drop f).take (i - f) ++ 32 :: l.drop (i + 1) := by
            have h1 : l.drop i = l[i] :: l.drop (i + 1) := List.drop_eq_getElem_cons hlt
            rw [hc] at h1
            rw [← h1]
            have h2 := (List.take_append_drop (i - f) (l.drop f)).symm
            rw [List.drop_drop, show f + (i - f) = i by omega] at h2
            exact h2
          have P := pcs_blank ((l.drop f).take (i - f)) (l.drop (i + 1)) q5
          rw [← e] at P
          rw [q4, P]
          simp
        · simp [intOf]; omega
      · have hcn : (l[i]).toNat ≠ 32 := fun h => hc (UInt8.toNat.inj (by rw [h]; rfl))
        generalize hx : (l[i]).toNat = x at *
        have hbe : ((x : Int) == 32) = false := by simp; omega
        go_wp2_with fail
        go_roundw
        · obtain ⟨q1, q2, q3, q4, q5⟩ := hh.out
          refine ⟨f, i + 1, done, rfl, by simp, by omega, by omega, ⟨q1, q2, by omega, q4, ?_⟩⟩
          rw [show i + 1 - f = (i - f) + 1 by omega, List.take_succ_eq_append_getElem (by simp; omega)]
          intro hm
          rcases List.mem_append.1 hm with hm | hm
          · exact q5 hm
          · simp at hm
            apply hc
            rw [hm]
            congr 1
            omega
        · simp [intOf]; omega
    · have hli : ¬ (i : Int) < l.length := by omega
      obtain rfl : i = l.length := by omega
      obtain ⟨q1, q2, q3, q4, q5⟩ := hh.out
      obtain ⟨v1, w1, r1, r2, r3⟩ := q1.push (l.drop f) (by omega)
      have HR : Hid (_ = _) := r1
      have hcut : (⟨l.toArray⟩ : ByteArray).extract f l.length = ⟨(l.drop f).toArray⟩ := by rw [cut_str, List.take_of_length_le (by simp)]
      have hfl : (f : Int) ≤ l.length := by omega
      have KK := Strs.kept r3 q2 q1
      have hP : pcs l = done ++ [l.drop f] := by
        rw [q4, pcs_word (l.drop f)]
        rw [List.take_of_length_le (by simp)] at q5
        exact q5
      rw [← hP] at r2
      clear q1 q2 q3 q4 q5 r1 r3 hP hh
      go_wp2_with (at_builtin; refine wpList_append_run rfl _ _ 74 rfl rfl rfl HR.out ?_)
      go_ret
      exact ⟨_, rfl, r2, KK⟩
end Go.Proofs.YtepigjbnpkpanaaDoor
