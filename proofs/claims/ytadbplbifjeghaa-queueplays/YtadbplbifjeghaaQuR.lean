
/- The walks of queue's get and put: cells one behind the other (layer 23). No statement of the seat is proved here. -/
import Derived.Test.YtadbplbifjeghaaQuW
import Derived.Test.YtadbplbifjeghaaQuP
namespace Go.Proofs.Ytadbplbifjeghaa
open Go.RowKit

theorem zero_isW : isW 0 := ⟨Int.le_refl _, by simp⟩
theorem nodeOf_any (a : Int) (w : World) : Calls Try.prog 40 #[.int .u64 a] w fun e w' => e = .returned (.int .u64 (nodeA a)) ∧ w' = w := by
  go_enter Try.func40, Try.ntmps40
  go_wp2
  go_ret
  exact ⟨rfl, rfl⟩
theorem leadsTo_any (a : Int) (w : World) : Calls Try.prog 47 #[.int .u64 a] w fun e w' => e = .returned (.int .u64 (uw (a + 1))) ∧ w' = w := by
  go_enter Try.func47, Try.ntmps47
  go_wp2
  go_ret
  exact ⟨rfl, rfl⟩

/-- A block of so many words, the first of which are known. -/
def Blk (w : World) (k : Nat) (ty : TypeId) (n : Nat) (l : List Int) : Prop := ∃ cur, w.heap[k]? = some (.cells cur ty (0, 0)) ∧ cur.size = n ∧ ∀ i, i < l.length → cur[i]? = some (.int .u64 (oat l i))
section
variable {w w' : World} {k n : Nat} {ty : TypeId} {l : List Int}
theorem Blk.kept {S : Nat → Prop} (h : Blk w k ty n l) (hk : Keeps S w w') (hs : ¬ S k) : Blk w' k ty n l := by
  obtain ⟨cur, h1, h2⟩ := h
  exact ⟨cur, (hk.block k (lt_of_block h1) hs).trans h1, h2⟩
theorem Blk.lt (h : Blk w k ty n l) : k < w.heap.size := by obtain ⟨cur, h1, _⟩ := h; exact lt_of_block h1
theorem Blk.frozen (h : Blk w k ty n l) (i : Nat) : w.frozen? ⟨k, i, none⟩ = false := by obtain ⟨cur, h1, _⟩ := h; exact frozen_of_block h1 i
theorem Blk.any (h : Blk w k ty n l) {i : Nat} (hi : i < n) : ∃ v, w.cell? ⟨k, i, none⟩ = some v := by
  obtain ⟨cur, h1, h2, _⟩ := h
  exact ⟨cur[i]'(by omega), by rw [cell_of_block h1]; simp [show i < cur.size by omega]⟩
theorem Blk.cell (h : Blk w k ty n l) {i : Nat} (hi : i < l.length) : w.cell? ⟨k, i, none⟩ = some (.int .u64 (oat l i)) := by
  obtain ⟨cur, h1, _, h3⟩ := h
  rw [cell_of_block h1, h3 i hi]
theorem Blk.set (h : Blk w k ty n l) (hl : l.length < n) (x : Int) : Blk (w.setCell ⟨k, l.length, none⟩ (.int .u64 x)) k ty n (l ++ [x]) := by
  obtain ⟨cur, h1, h2, h3⟩ := h
  refine ⟨_, block_set h1 l.length _, by simpa using h2, fun i hi => ?_⟩
  rw [Array.getElem?_setIfInBounds]
  by_cases e : l.length = i
  · subst e
    simp [h2, hl, oat]
  · have hi' : i < l.length := by simp at hi; omega
    rw [if_neg e, h3 i hi']
    unfold oat
    rw [List.getElem?_append_left hi']
theorem Blk.less (h : Blk w k ty n l) : Blk w k ty n [] := by
  obtain ⟨cur, h1, h2, _⟩ := h
  exact ⟨cur, h1, h2, fun i hi => by simp at hi⟩
end
def three (b g k : Nat) (i : Nat) : Prop := i = k ∨ two b g i
theorem Keeps.three {b g k : Nat} {a w w' : World} (h : Keeps (three b g k) a w) (q : Keeps (two b g) w w') : Keeps (three b g k) a w' := h.trans (q.mono fun _ _ e => .inr e)

theorem getK_oks (a : Int) {s : Wd} (h : s.Ok) : ∀ k, (getK a s k).2.Ok ∧ ((getK a s k).1.2 = 0 → (getK a s k).1.1.length = k ∧ ∀ x ∈ (getK a s k).1.1, isW x)
  | 0 => ⟨h, fun _ => ⟨rfl, by simp [getK]⟩⟩
  | k + 1 => by
    have ih := getK_oks a h k
    unfold getK
    split
    · rename_i he
      exact ⟨ih.1, fun q => absurd q he⟩
    · rename_i he
      have he : (getK a s k).1.2 = 0 := Classical.not_not.1 he
      have hg := ih.1.get (uw (a + k))
      split
      · rename_i h2
        exact ⟨hg.1, fun q => absurd q h2⟩
      · refine ⟨hg.1, fun _ => ⟨by simp [ih.2 he], fun x hx => ?_⟩⟩
        rcases List.mem_append.1 hx with hx | hx
        · exact (ih.2 he).2 x hx
        · rw [List.mem_singleton.1 hx]; exact hg.2.1

set_option maxHeartbeats 4000000 in
theorem qget_any (t b g c : Nat) (s : Wd) (a : Int) (_ha : isW a) (k n : Nat) (ty : TypeId) (hn : n ≤ 3) (w : World) (h : Tw w t b g c s) (hk : Blk w k ty n []) (ne : k ≠ t ∧ k ≠ b ∧ k ≠ g) :
    Calls Try.prog 39 #[.iface 24 (.pointer (some ⟨t, 0, none⟩)), .int .u64 a, .slice (some ⟨k, 0, none⟩) n n] w fun e w' => e = .returned (.int .i64 (s.gets a n).1.2) ∧ Tw w' t b g c (s.gets a n).2 ∧ Keeps (three b g k) w w' ∧ Blk w' k ty n [] ∧ ((s.gets a n).1.2 = 0 → Blk w' k ty n (s.gets a n).1.1) := by
  have mg := meth_get t
  have ng := nil_get t
  have HOK : Hid (∀ j, (getK a s j).2.Ok ∧ ((getK a s j).1.2 = 0 → (getK a s j).1.1.length = j ∧ ∀ x ∈ (getK a s j).1.1, isW x)) := fun j => getK_oks a h.wd.ok j
  have HG : Hid (s.gets a n = getK a s n) := rfl
  have H0 : Hid (Tw w t b g c s ∧ Keeps (three b g k) w w ∧ Blk w k ty n []) := ⟨h, Keeps.refl _ w, hk⟩
  have NE := hid ne
  clear h hk ne
  go_enter Try.func39, Try.ntmps39
  go_wp2_with fail
  go_loopw [12] (fun iv wr => ∃ j : Nat, j ≤ n ∧ iv = .int .i64 (j : Int) ∧ ∃ l sj, Hid (getK a s j = ((l, 0), sj) ∧ Tw wr t b g c sj ∧ Keeps (three b g k) w wr ∧ Blk wr k ty n l)) (fun iv _ => n - (intOf iv).toNat)
  case atStart => exact ⟨0, by omega, rfl, [], s, hid ⟨rfl, H0.out.1, H0.out.2.1, H0.out.2.2⟩⟩
  case round =>
    obtain ⟨j, hj, rfl, l, sj, hr⟩ := hrel
    clear H0
    by_cases hlt : j < n
    · have hlti : (j : Int) < n := by omega
      obtain ⟨⟨⟨x, e⟩, s'⟩, eqg⟩ : ∃ r, sj.get (uw (a + j)) = r := ⟨_, rfl⟩
      have HE : Hid (_ = _) := eqg
      have hwj : IntKind.u64.wrap (j : Int) = j := by rw [IntKind.wrap_u64]; omega
      by_cases he : e = 0
      · subst he
        have HN : Hid (getK a s (j + 1) = ((l ++ [x], 0), s')) := hid <| by
          unfold getK
          rw [hr.out.1]
          simp [eqg]
        have HL : Hid (l.length = j) := hid <| by
          have q := ((HOK.out j).2 (by rw [hr.out.1])).1
          rw [hr.out.1] at q
          exact q
        clear eqg hlt
        go_wp2_with fail
        have hh := hr.out.2.1
        refine (tget_r HE (uw_isW _) hh).mono ?_
        rintro e_ w2 ⟨rfl, h2, k2⟩
        have hb2 := hr.out.2.2.2.kept k2 (fun q => by rcases q with q | q; exact NE.out.2.1 q; exact NE.out.2.2 q)
        obtain ⟨v0, hc0⟩ := hb2.any (i := j) (by omega)
        have hf0 := hb2.frozen j
        have HF := hid (And.intro h2 (And.intro (hr.out.2.2.1.three k2) hb2))
        clear hh h2 k2 hr HE hb2
        go_wp2_with fail
        have hb3 := HF.out.2.2.set (by rw [HL.out]; omega) x
        rw [HL.out] at hb3
        have h3 : Keeps (fun i => i = k) w2 (w2.setCell ⟨k, j, none⟩ (.int .u64 x)) := (Keeps.refl (fun i => i = k) w2).setCell (p := ⟨k, j, none⟩) (.inr rfl) _
        have HR := hid (And.intro (show Tw (w2.setCell ⟨k, j, none⟩ (.int .u64 x)) t b g c s' from ⟨HF.out.1.tx.kept h3 (fun e => NE.out.1 e.symm), HF.out.1.wd.kept h3 (fun e => NE.out.2.1 e.symm) (fun e => NE.out.2.2 e.symm), HF.out.1.ne⟩) (And.intro (HF.out.2.1.trans (h3.mono fun _ _ e => .inl e)) hb3))
        clear HF hb3 h3 hc0 hf0
        go_roundw
        case rel => exact ⟨j + 1, by omega, by simp, l ++ [x], s', hid ⟨HN.out, HR.out.1, HR.out.2.1, HR.out.2.2⟩⟩
        case measure => simp [intOf]; omega
      · have HST : Hid (getK a s n = (([], e), s')) := hid <| by
          have q : getK a s (j + 1) = (([], e), s') := by
            unfold getK
            rw [hr.out.1]
            simp [eqg, he]
          have q2 := getK_stop a s (j + 1) (by rw [q]; exact he) (n - (j + 1))
          rw [show j + 1 + (n - (j + 1)) = n by omega, q] at q2
          exact q2
        clear eqg hlt
        go_wp2_with fail
        have hh := hr.out.2.1
        refine (tget_r HE (uw_isW _) hh).mono ?_
        rintro e_ w2 ⟨rfl, h2, k2⟩
        have hb2 := hr.out.2.2.2.kept k2 (fun q => by rcases q with q | q; exact NE.out.2.1 q; exact NE.out.2.2 q)
        have HF := hid (And.intro h2 (And.intro (hr.out.2.2.1.three k2) hb2.less))
        clear hh h2 k2 hr HE hb2
        go_wp2_with fail
        go_ret
        rw [HG.out, HST.out]
        exact ⟨rfl, HF.out.1, HF.out.2.1, HF.out.2.2, fun q => absurd q he⟩
    · obtain rfl : j = n := by omega
      clear hlt
      go_wp2_with fail
      go_ret
      rw [HG.out, hr.out.1]
      exact ⟨rfl, hr.out.2.1, hr.out.2.2.1, hr.out.2.2.2.less, fun _ => hr.out.2.2.2⟩

set_option maxHeartbeats 4000000 in
theorem qput_any (t b g c : Nat) (s : Wd) (a : Int) (_ha : isW a) (l : List Int) (hl : ∀ i, isW (oat l i)) (k : Nat) (ty : TypeId) (hn : l.length ≤ 3) (w : World) (h : Tw w t b g c s) (hk : Blk w k ty l.length l) (ne : k ≠ b ∧ k ≠ g) :
    Calls Try.prog 35 #[.iface 24 (.pointer (some ⟨t, 0, none⟩)), .int .u64 a, .slice (some ⟨k, 0, none⟩) l.length l.length] w fun e w' => e = .returned (.int .i64 (s.puts a l).1) ∧ Tw w' t b g c (s.puts a l).2 ∧ Keeps (two b g) w w' := by
  have mp := meth_put t
  have np := nil_put t
  have HG : Hid (s.puts a l = putK a l s l.length) := rfl
  obtain ⟨n, hnn⟩ : ∃ n, l.length = n := ⟨_, rfl⟩
  have HLN := hid hnn
  rw [hnn] at hn hk HG ⊢
  clear hnn
  have H0 : Hid (Tw w t b g c s ∧ Keeps (two b g) w w) := ⟨h, Keeps.refl _ w⟩
  have HK := hid hk
  have NE := hid ne
  clear h hk ne
  go_enter Try.func35, Try.ntmps35
  go_wp2_with fail
  go_loopw [12] (fun iv wr => ∃ j : Nat, j ≤ n ∧ iv = .int .i64 (j : Int) ∧ ∃ sj, Hid (putK a l s j = (0, sj) ∧ Tw wr t b g c sj ∧ Keeps (two b g) w wr)) (fun iv _ => n - (intOf iv).toNat)
  case atStart => exact ⟨0, by omega, rfl, s, hid ⟨rfl, H0.out.1, H0.out.2⟩⟩
  case round =>
    obtain ⟨j, hj, rfl, sj, hr⟩ := hrel
    clear H0
    by_cases hlt : j < n
    · have hlti : (j : Int) < n := by omega
      obtain ⟨⟨e, s'⟩, eqg⟩ : ∃ r, sj.put (uw (a + j)) (oat l j) = r := ⟨_, rfl⟩
      have HE : Hid (_ = _) := eqg
      have hwj : IntKind.u64.wrap (j : Int) = j := by rw [IntKind.wrap_u64]; omega
      have hc0 := (HK.out.kept hr.out.2.2 (fun q => by rcases q with q | q; exact NE.out.1 q; exact NE.out.2 q)).cell (i := j) (by rw [HLN.out]; omega)
      by_cases he : e = 0
      · subst he
        have HN : Hid (putK a l s (j + 1) = (0, s')) := hid <| by
          unfold putK
          rw [hr.out.1]
          simp [eqg]
        clear eqg hlt
        go_wp2_with fail
        have hh := hr.out.2.1
        refine (tput_r HE (uw_isW _) (hl j) hh).mono ?_
        rintro e_ w2 ⟨rfl, h2, k2⟩
        have HR := hid (And.intro h2 (hr.out.2.2.trans k2))
        clear hh h2 k2 hr HE hc0
        go_wp2_with fail
        go_roundw
        case rel => exact ⟨j + 1, by omega, by simp, s', hid ⟨HN.out, HR.out.1, HR.out.2⟩⟩
        case measure => simp [intOf]; omega
      · have HST : Hid (putK a l s n = (e, s')) := hid <| by
          have q : putK a l s (j + 1) = (e, s') := by
            unfold putK
            rw [hr.out.1]
            simp [eqg]
          have q2 := putK_stop a l s (j + 1) (by rw [q]; exact he) (n - (j + 1))
          rw [show j + 1 + (n - (j + 1)) = n by omega, q] at q2
          exact q2
        clear eqg hlt
        go_wp2_with fail
        have hh := hr.out.2.1
        refine (tput_r HE (uw_isW _) (hl j) hh).mono ?_
        rintro e_ w2 ⟨rfl, h2, k2⟩
        have HR := hid (And.intro h2 (hr.out.2.2.trans k2))
        clear hh h2 k2 hr HE hc0
        go_wp2_with fail
        go_ret
        rw [HG.out, HST.out]
        exact ⟨rfl, HR.out.1, HR.out.2⟩
    · obtain rfl : j = n := by omega
      clear hlt
      go_wp2_with fail
      go_ret
      rw [HG.out, hr.out.1]
      exact ⟨rfl, hr.out.2.1, hr.out.2.2⟩
end Go.Proofs.Ytadbplbifjeghaa
