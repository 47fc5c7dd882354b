
/- The document's plain sets: place, Has, Remove, Above (layer 21). No statement of the seat is proved here. -/
import Derived.Test.YtmnbilhblkobdaaLeF
namespace Go.Proofs.Ytmnbilhblkobdaa
open Go.RowKit

/-- Where a key stands among words, or would stand: the first that is not below it. -/
def Pl (l : List Int) (key : Int) (i : Nat) : Prop := i ≤ l.length ∧ (∀ j, j < i → oat l j < key) ∧ (i < l.length → key ≤ oat l i)
/-- A row of keys: none, or in memory of its own. -/
def KR (w : World) (v : Value) (l : List Int) : Prop := (v = .slice none 0 0 ∧ l = []) ∨ ∃ g c, v = .slice (some ⟨g, 0, none⟩) l.length c ∧ 0 < l.length ∧ l.length ≤ c ∧ ∀ i, i < l.length → w.cell? ⟨g, i, none⟩ = some (.int .u64 (oat l i))
theorem KR.lies {w : World} {v : Value} {l : List Int} (h : KR w v l) : Lies w v l := by
  rcases h with ⟨rfl, rfl⟩ | ⟨g, c, rfl, _, _, hc⟩
  · exact ⟨none, 0, rfl, fun i hi => absurd hi (by simp)⟩
  · exact ⟨_, c, rfl, fun i hi => ⟨g, 0, rfl, by rw [Nat.zero_add]; exact hc i hi⟩⟩
set_option maxHeartbeats 1000000 in
theorem place_any (v : Value) (l : List Int) (key : Int) (hl : l.length ≤ 1000000) (w : World) (h : Lies w v l) : Calls Try.prog 42 #[v, .int .u64 key] w fun e w' => ∃ i : Nat, Pl l key i ∧ e = .returned (.int .i64 i) ∧ w' = w := by
  obtain ⟨a, c, rfl, hc⟩ := h
  have HC := hid hc
  clear hc
  go_enter Try.func42, Try.ntmps42
  go_wp2_with fail
  go_loopw [5] (fun i wr => ∃ k : Nat, k ≤ l.length ∧ i = .int .i64 k ∧ wr = w ∧ Hid (∀ j, j < k → oat l j < key)) (fun i _ => l.length - (intOf i).toNat)
  case atStart => exact ⟨0, by omega, rfl, rfl, hid (fun j hj => absurd hj (by omega))⟩
  case round =>
    obtain ⟨k, hk, rfl, rfl, HJ⟩ := hrel
    by_cases hlt : k < l.length
    · obtain ⟨g, off, rfl, d1⟩ := HC.out k hlt
      have hki : (k : Int) < (l.length : Int) := by omega
      by_cases hkk : oat l k < key
      · have hwk : IntKind.i64.wrap ((k : Int) + 1) = ((k + 1 : Nat) : Int) := by rw [IntKind.wrap_i64]; omega
        go_wp2_with fail
        go_roundw
        case rel => exact ⟨k + 1, by omega, by simp, trivial, hid (fun j hj => by rcases Nat.lt_or_ge j k with q | q; exact HJ.out j q; rw [show j = k by omega]; exact hkk)⟩
        case measure => simp [intOf]; omega
      · have hge : key ≤ oat l k := by omega
        go_wp2_with fail
        go_ret
        exact ⟨k, ⟨hk, HJ.out, fun _ => hge⟩, rfl, rfl⟩
    · obtain rfl : k = l.length := by omega
      go_wp2_with fail
      go_ret
      exact ⟨_, ⟨Nat.le_refl _, HJ.out, fun q => absurd q (by omega)⟩, rfl, rfl⟩
set_option maxHeartbeats 1000000 in
theorem rhas_any (v : Value) (l : List Int) (key : Int) (hl : l.length ≤ 1000000) (w : World) (h : Lies w v l) : Calls Try.prog 19 #[v, .int .u64 key] w fun e w' => ∃ i : Nat, Pl l key i ∧ e = .returned (.bool (decide (i < l.length) && (oat l i == key))) ∧ w' = w := by
  have HL := hid h
  obtain ⟨a, c, rfl, hc⟩ := h
  have HC := hid hc
  clear hc
  go_enter Try.func19, Try.ntmps19
  go_wp2_with fail
  refine (place_any _ l key hl w HL.out).mono ?_
  rintro e_ w_ ⟨i, hi, rfl, hw_⟩
  subst w_
  have HI := hid hi
  clear hi
  by_cases hlt : i < l.length
  · obtain ⟨g, off, rfl, d1⟩ := HC.out i hlt
    have hki : (i : Int) < (l.length : Int) := by omega
    go_wp2_with fail
    go_ret
    exact ⟨i, HI.out, by simp [hlt], rfl⟩
  · have hki : ¬ (i : Int) < (l.length : Int) := by omega
    go_wp2_with fail
    go_ret
    exact ⟨i, HI.out, by simp [hlt], rfl⟩
set_option maxRecDepth 100000 in
set_option maxHeartbeats 2000000 in
theorem rremove_any (v : Value) (l : List Int) (key : Int) (hl : l.length ≤ 1000000) (w : World) (h : Lies w v l) : Calls Try.prog 21 #[v, .int .u64 key] w fun e w' => ∃ v', e = .returned v' ∧ Wr w' w.heap.size v' (l.filter (fun x => x != key)) ∧ Keeps (fun _ => False) w w' := by
  have HL := hid h
  obtain ⟨a, c, rfl, hc⟩ := h
  clear hc
  go_enter Try.func21, Try.ntmps21
  go_wp2_with fail
  go_loopw [5, 6] (fun ov i wr => ∃ k : Nat, k ≤ l.length ∧ i = .int .i64 k ∧ Hid (Wr wr w.heap.size ov ((l.take k).filter (fun x => x != key)) ∧ Keeps (fun _ => False) w wr ∧ w.heap.size ≤ wr.heap.size)) (fun _ i _ => l.length - (intOf i).toNat)
  case atStart => exact ⟨0, by omega, rfl, hid ⟨Wr.nil _ _, Keeps.refl _ _, Nat.le_refl _⟩⟩
  case round =>
    obtain ⟨k, hk, rfl, HY⟩ := hrel
    obtain ⟨ao, co, rfl⟩ := HY.out.1.form
    by_cases hlt : k < l.length
    · obtain ⟨a', c', hv, hcell⟩ := HL.out.keeps HY.out.2.1 (fun _ _ _ _ f => f)
      obtain ⟨g, off, ha, d1⟩ := hcell k hlt
      simp only [Value.slice.injEq] at hv
      obtain ⟨rfl, _, rfl⟩ := hv
      subst ha
      clear hcell
      have hki : (k : Int) < (l.length : Int) := by omega
      have hwk : IntKind.i64.wrap ((k : Int) + 1) = ((k + 1 : Nat) : Int) := by rw [IntKind.wrap_i64]; omega
      have ht : (l.take (k + 1)).filter (fun x => x != key) = (l.take k).filter (fun x => x != key) ++ (if oat l k != key then [oat l k] else []) := by
        rw [List.take_succ_eq_append_getElem hlt, List.filter_append]
        have : l[k] = oat l k := by unfold oat; rw [List.getElem?_eq_getElem hlt]; rfl
        rw [this]
        by_cases q : oat l k != key <;> simp [q]
      by_cases hkk : oat l k = key
      · have hb : (oat l k != key) = false := by simp [hkk]
        have HN : Hid (Wr wr w.heap.size (.slice ao ((l.take k).filter (fun x => x != key)).length co) ((l.take (k + 1)).filter (fun x => x != key)) ∧ Keeps (fun _ => False) w wr ∧ w.heap.size ≤ wr.heap.size) := by
          rw [ht, hb]; simpa using HY
        clear HY ht hkk
        go_wp2_with fail
        go_roundw
        case rel => exact ⟨k + 1, by omega, by simp, HN⟩
        case measure => simp [intOf]; omega
      · have hb : (oat l k != key) = true := by simpa using hkk
        have hfl : ((l.take k).filter (fun x => x != key)).length ≤ 1000000 := Nat.le_trans (List.length_filter_le _ _) (by rw [List.length_take]; omega)
        obtain ⟨v', wa, hrun, hwr, hkp⟩ := HY.out.1.push (x := oat l k) HY.out.2.2 (by omega)
        obtain ⟨av', cv', rfl⟩ := hwr.form
        have HR := hid hrun
        have hlen : ((l.take k).filter (fun x => x != key) ++ [oat l k]).length = ((l.take k).filter (fun x => x != key)).length + 1 := by simp
        have HN : Hid (Wr wa w.heap.size (.slice av' (((l.take k).filter (fun x => x != key)).length + 1) cv') ((l.take (k + 1)).filter (fun x => x != key)) ∧ Keeps (fun _ => False) w wa ∧ w.heap.size ≤ wa.heap.size) := by
          rw [ht, hb]
          rw [hlen] at hwr
          exact hid ⟨by simpa using hwr, HY.out.2.1.step hkp (fun i hi e => by omega), Nat.le_trans HY.out.2.2 hkp.size⟩
        rw [hlen] at HR
        generalize ((l.take k).filter (fun x => x != key)).length = fl at HR HN ⊢
        clear hrun hwr hkp HY ht hkk hlen hfl
        go_wp2_with (at_builtin; refine wpList_append_run rfl _ _ 30 rfl rfl rfl HR.out ?_; clear HR)
        go_roundw
        case rel => exact ⟨k + 1, by omega, by simp, HN⟩
        case measure => simp [intOf]; omega
    · obtain rfl : k = l.length := by omega
      go_wp2_with fail
      go_ret
      have hy := HY.out
      refine ⟨_, rfl, ?_, hy.2.1⟩
      have q := hy.1
      rw [show l.filter (fun x => x != key) = (l.take l.length).filter (fun x => x != key) by rw [List.take_length]]
      exact q
/-- The least above. -/
def abvN (l : List Int) (key : Int) : Int × Bool := match l.find? (fun x => decide (key < x)) with
  | some x => (x, true)
  | none => (0, false)
set_option maxHeartbeats 1000000 in
theorem rabove_any (v : Value) (l : List Int) (key : Int) (hl : l.length ≤ 1000000) (w : World) (h : Lies w v l) : Calls Try.prog 22 #[v, .int .u64 key] w fun e w' => e = .returned (.tuple #[.int .u64 (abvN l key).1, .bool (abvN l key).2]) ∧ w' = w := by
  obtain ⟨a, c, rfl, hc⟩ := h
  have HC := hid hc
  clear hc
  go_enter Try.func22, Try.ntmps22
  go_wp2_with fail
  go_loopw [6] (fun i wr => ∃ k : Nat, k ≤ l.length ∧ i = .int .i64 k ∧ wr = w ∧ Hid (abvN l key = abvN (l.drop k) key)) (fun i _ => l.length - (intOf i).toNat)
  case atStart => exact ⟨0, by omega, rfl, rfl, hid (by rw [List.drop_zero])⟩
  case round =>
    obtain ⟨k, hk, rfl, rfl, HJ⟩ := hrel
    by_cases hlt : k < l.length
    · obtain ⟨g, off, rfl, d1⟩ := HC.out k hlt
      have hki : (k : Int) < (l.length : Int) := by omega
      have hdr : l.drop k = oat l k :: l.drop (k + 1) := by
        rw [List.drop_eq_getElem_cons hlt]
        congr 1
        unfold oat; rw [List.getElem?_eq_getElem hlt]; rfl
      by_cases hkk : key < oat l k
      · have HF : Hid (abvN l key = (oat l k, true)) := by
          have q := HJ.out
          rw [hdr] at q
          rw [q]
          unfold abvN
          simp [hkk, hid]
        go_wp2_with fail
        go_ret2
        rw [HF.out]
        exact ⟨rfl, rfl⟩
      · have hwk : IntKind.i64.wrap ((k : Int) + 1) = ((k + 1 : Nat) : Int) := by rw [IntKind.wrap_i64]; omega
        have HF : Hid (abvN l key = abvN (l.drop (k + 1)) key) := by
          have q := HJ.out
          rw [hdr] at q
          refine hid (q.trans ?_)
          unfold abvN
          rw [List.find?_cons_of_neg (by simpa using hkk)]
        clear hdr HJ
        go_wp2_with fail
        go_roundw
        case rel => exact ⟨k + 1, by omega, by simp, trivial, HF⟩
        case measure => simp [intOf]; omega
    · obtain rfl : k = l.length := by omega
      have HF : Hid (abvN l key = (0, false)) := by
        have q := HJ.out
        rw [List.drop_length] at q
        exact hid q
      go_wp2_with fail
      go_ret2
      rw [HF.out]
      exact ⟨rfl, rfl⟩
end Go.Proofs.Ytmnbilhblkobdaa
