
/- The walks of rank's get, put and change: cells one behind the other (layer 24). No statement of the seat is proved here. -/
import Derived.Test.YtalopkllldnipaaRkW
import Derived.Test.YtalopkllldnipaaRkP
namespace Go.Proofs.Ytalopkllldnipaa
open Go.RowKit

theorem zero_isW : isW 0 := ⟨Int.le_refl _, by simp⟩
theorem nodeOf_any (a : Int) (w : World) : Calls Try.prog 66 #[.int .u64 a] w fun e w' => e = .returned (.int .u64 (nodeA a)) ∧ w' = w := by
  go_enter Try.func66, Try.ntmps66
  go_wp2
  go_ret
  exact ⟨rfl, rfl⟩

/-- Words laid into a block's cells, from one on. -/
def setsV (cur : Array Value) (o : Nat) (l : List Int) : Array Value := match l with
  | [] => cur
  | x :: l => setsV (cur.setIfInBounds o (.int .u64 x)) (o + 1) l
theorem setsV_snoc (x : Int) : ∀ (l : List Int) (cur : Array Value) (o : Nat), setsV cur o (l ++ [x]) = (setsV cur o l).setIfInBounds (o + l.length) (.int .u64 x)
  | [], _, _ => rfl
  | y :: l, cur, o => by
    show setsV (cur.setIfInBounds o (.int .u64 y)) (o + 1) (l ++ [x]) = (setsV (cur.setIfInBounds o (.int .u64 y)) (o + 1) l).setIfInBounds (o + (y :: l).length) (.int .u64 x)
    rw [setsV_snoc x l, List.length_cons, show o + 1 + l.length = o + (l.length + 1) by omega]
theorem setsV_size : ∀ (l : List Int) (cur : Array Value) (o : Nat), (setsV cur o l).size = cur.size
  | [], _, _ => rfl
  | y :: l, cur, o => by
    show (setsV (cur.setIfInBounds o (.int .u64 y)) (o + 1) l).size = _
    rw [setsV_size l]; simp
/-- A block with these cells. -/
def Blk (w : World) (k : Nat) (ty : TypeId) (cur : Array Value) : Prop := w.heap[k]? = some (.cells cur ty (0, 0))
section
variable {w w' : World} {k : Nat} {ty : TypeId} {cur : Array Value}
theorem Blk.kept {S : Nat → Prop} (h : Blk w k ty cur) (hk : Keeps S w w') (hs : ¬ S k) : Blk w' k ty cur := (hk.block k (lt_of_block h) hs).trans h
theorem Blk.lt (h : Blk w k ty cur) : k < w.heap.size := lt_of_block h
theorem Blk.frozen (h : Blk w k ty cur) (i : Nat) : w.frozen? ⟨k, i, none⟩ = false := frozen_of_block h i
theorem Blk.any (h : Blk w k ty cur) {i : Nat} (hi : i < cur.size) : ∃ v, w.cell? ⟨k, i, none⟩ = some v := ⟨cur[i], by rw [cell_of_block h]; simp [hi]⟩
theorem Blk.cell (h : Blk w k ty cur) {i : Nat} {v : Value} (hv : cur[i]? = some v) : w.cell? ⟨k, i, none⟩ = some v := by rw [cell_of_block h, hv]
theorem Blk.set (h : Blk w k ty cur) (i : Nat) (v : Value) : Blk (w.setCell ⟨k, i, none⟩ v) k ty (cur.setIfInBounds i v) := block_set h i v
end
def three (b g k : Nat) (i : Nat) : Prop := i = k ∨ two b g i
theorem Keeps.three {b g k : Nat} {a w w' : World} (h : Keeps (three b g k) a w) (q : Keeps (two b g) w w') : Keeps (three b g k) a w' := h.trans (q.mono fun _ _ e => .inr e)

theorem getK_oks (a : Int) {s : Wd} (h : s.Ok) : ∀ k, (getK a s k).2.Ok ∧ ((getK a s k).1.2 = 0 → (getK a s k).1.1.length = k ∧ ∀ x ∈ (getK a s k).1.1, isW x)
  | 0 => ⟨h, fun _ => ⟨rfl, by simp [getK]⟩⟩
  | k + 1 => by
    have ih := getK_oks a h k
    unfold getK
    split
    · rename_i he
      exact ⟨ih.1, fun q => absurd q he⟩
    · rename_i he
      have he : (getK a s k).1.2 = 0 := Classical.not_not.1 he
      have hg := ih.1.get (uw (a + k))
      split
      · rename_i h2
        exact ⟨hg.1, fun q => absurd q h2⟩
      · refine ⟨hg.1, fun _ => ⟨by simp [ih.2 he], fun x hx => ?_⟩⟩
        rcases List.mem_append.1 hx with hx | hx
        · exact (ih.2 he).2 x hx
        · rw [List.mem_singleton.1 hx]; exact hg.2.1

/-- Where such a word lies. -/
theorem Lies.at' {w : World} {a : Option Addr} {n c : Nat} {xs : List Int} (h : Lies w (.slice a n c) xs) (i : Nat) (hi : i < xs.length) : ∃ g off, a = some ⟨g, off, none⟩ ∧ w.cell? ⟨g, off + i, none⟩ = some (.int .u64 (oat xs i)) := by
  obtain ⟨a', c', e, hc⟩ := h
  injection e with e1 e2 e3
  subst e1
  exact hc i hi

set_option maxHeartbeats 4000000 in
theorem kget_any (b g c : Nat) (s : Wd) (a : Int) (_ha : isW a) (k o n cp : Nat) (ty : TypeId) (cur : Array Value) (hn : n ≤ 5) (ho : o + n ≤ cur.size) (w : World) (h : WdAt w b g c s) (hk : Blk w k ty cur) (ne : k ≠ b ∧ k ≠ g) :
    Calls Try.prog 65 #[.iface 24 (.pointer (some ⟨b, 0, none⟩)), .int .u64 a, .slice (some ⟨k, o, none⟩) n cp] w fun e w' => e = .returned (.int .i64 (s.gets a n).1.2) ∧ WdAt w' b g c (s.gets a n).2 ∧ Keeps (three b g k) w w' ∧ ∃ l, Blk w' k ty (setsV cur o l) ∧ ((s.gets a n).1.2 = 0 → l = (s.gets a n).1.1) := by
  have mg := meth_get b
  have ng := nil_get b
  have HOK : Hid (∀ j, (getK a s j).2.Ok ∧ ((getK a s j).1.2 = 0 → (getK a s j).1.1.length = j ∧ ∀ x ∈ (getK a s j).1.1, isW x)) := fun j => getK_oks a h.ok j
  have HG : Hid (s.gets a n = getK a s n) := rfl
  have H0 : Hid (WdAt w b g c s ∧ Keeps (three b g k) w w ∧ Blk w k ty cur) := ⟨h, Keeps.refl _ w, hk⟩
  have NE := hid ne
  clear h hk ne
  go_enter Try.func65, Try.ntmps65
  go_wp2_with fail
  go_loopw [12] (fun iv wr => ∃ j : Nat, j ≤ n ∧ iv = .int .i64 (j : Int) ∧ ∃ l sj, Hid (getK a s j = ((l, 0), sj) ∧ WdAt wr b g c sj ∧ Keeps (three b g k) w wr ∧ Blk wr k ty (setsV cur o l))) (fun iv _ => n - (intOf iv).toNat)
  case atStart => exact ⟨0, by omega, rfl, [], s, hid ⟨rfl, H0.out.1, H0.out.2.1, H0.out.2.2⟩⟩
  case round =>
    obtain ⟨j, hj, rfl, l, sj, hr⟩ := hrel
    clear H0
    by_cases hlt : j < n
    · have hlti : (j : Int) < n := by omega
      obtain ⟨⟨⟨x, e⟩, s'⟩, eqg⟩ : ∃ r, sj.get (uw (a + j)) = r := ⟨_, rfl⟩
      have HE : Hid (_ = _) := eqg
      have hwj : IntKind.u64.wrap (j : Int) = j := by rw [IntKind.wrap_u64]; omega
      by_cases he : e = 0
      · subst he
        have HN : Hid (getK a s (j + 1) = ((l ++ [x], 0), s')) := hid <| by
          unfold getK
          rw [hr.out.1]
          simp [eqg]
        have HL : Hid (l.length = j) := hid <| by
          have q := ((HOK.out j).2 (by rw [hr.out.1])).1
          rw [hr.out.1] at q
          exact q
        clear eqg hlt
        go_wp2_with fail
        have hh := hr.out.2.1
        refine (tget_r HE (uw_isW _) hh).mono ?_
        rintro e_ w2 ⟨rfl, h2, k2⟩
        have hb2 := hr.out.2.2.2.kept k2 (fun q => by rcases q with q | q; exact NE.out.1 q; exact NE.out.2 q)
        obtain ⟨v0, hc0⟩ := hb2.any (i := o + j) (by rw [setsV_size]; omega)
        have hf0 := hb2.frozen (o + j)
        have HF := hid (And.intro h2 (And.intro (hr.out.2.2.1.three k2) hb2))
        clear hh h2 k2 hr HE hb2
        go_wp2_with fail
        have hb3 := HF.out.2.2.set (o + j) (.int .u64 x)
        rw [← HL.out, ← setsV_snoc, HL.out] at hb3
        have h3 : Keeps (fun i => i = k) w2 (w2.setCell ⟨k, o + j, none⟩ (.int .u64 x)) := (Keeps.refl (fun i => i = k) w2).setCell (p := ⟨k, o + j, none⟩) (.inr rfl) _
        have HR := hid (And.intro (show WdAt (w2.setCell ⟨k, o + j, none⟩ (.int .u64 x)) b g c s' from HF.out.1.kept h3 (fun e => NE.out.1 e.symm) (fun e => NE.out.2 e.symm)) (And.intro (HF.out.2.1.trans (h3.mono fun _ _ e => .inl e)) hb3))
        clear HF hb3 h3 hc0 hf0
        go_roundw
        case rel => exact ⟨j + 1, by omega, by simp, l ++ [x], s', hid ⟨HN.out, HR.out.1, HR.out.2.1, HR.out.2.2⟩⟩
        case measure => simp [intOf]; omega
      · have HST : Hid (getK a s n = (([], e), s')) := hid <| by
          have q : getK a s (j + 1) = (([], e), s') := by
            unfold getK
            rw [hr.out.1]
            simp [eqg, he]
          have q2 := getK_stop a s (j + 1) (by rw [q]; exact he) (n - (j + 1))
          rw [show j + 1 + (n - (j + 1)) = n by omega, q] at q2
          exact q2
        clear eqg hlt
        go_wp2_with fail
        have hh := hr.out.2.1
        refine (tget_r HE (uw_isW _) hh).mono ?_
        rintro e_ w2 ⟨rfl, h2, k2⟩
        have hb2 := hr.out.2.2.2.kept k2 (fun q => by rcases q with q | q; exact NE.out.1 q; exact NE.out.2 q)
        have HF := hid (And.intro h2 (And.intro (hr.out.2.2.1.three k2) hb2))
        clear hh h2 k2 hr HE hb2
        go_wp2_with fail
        go_ret
        rw [HG.out, HST.out]
        exact ⟨rfl, HF.out.1, HF.out.2.1, _, HF.out.2.2, fun q => absurd q he⟩
    · obtain rfl : j = n := by omega
      clear hlt
      go_wp2_with fail
      go_ret
      rw [HG.out, hr.out.1]
      exact ⟨rfl, hr.out.2.1, hr.out.2.2.1, _, hr.out.2.2.2, fun _ => rfl⟩

set_option maxHeartbeats 4000000 in
theorem kput_any (b g c : Nat) (s : Wd) (a : Int) (_ha : isW a) (l : List Int) (hl : ∀ i, isW (oat l i)) (v : Value) (hn : l.length ≤ 5) (w : World) (h : WdAt w b g c s) (hk : Lies w v l) (ne : ∀ a c n, v = .slice (some a) n c → ¬ two b g a.block) :
    Calls Try.prog 63 #[.iface 24 (.pointer (some ⟨b, 0, none⟩)), .int .u64 a, v] w fun e w' => e = .returned (.int .i64 (s.puts a l).1) ∧ WdAt w' b g c (s.puts a l).2 ∧ Keeps (two b g) w w' := by
  have mp := meth_put b
  have np := nil_put b
  have HG : Hid (s.puts a l = putK a l s l.length) := rfl
  obtain ⟨n, hnn⟩ : ∃ n, l.length = n := ⟨_, rfl⟩
  have HLN := hid hnn
  rw [hnn] at hn HG
  have H0 : Hid (WdAt w b g c s ∧ Keeps (two b g) w w) := ⟨h, Keeps.refl _ w⟩
  have HK := hid hk
  obtain ⟨va, vc, rfl, _⟩ := hk
  rw [hnn]
  clear hnn
  have NE := hid ne
  clear h ne
  go_enter Try.func63, Try.ntmps63
  go_wp2_with fail
  go_loopw [12] (fun iv wr => ∃ j : Nat, j ≤ n ∧ iv = .int .i64 (j : Int) ∧ ∃ sj, Hid (putK a l s j = (0, sj) ∧ WdAt wr b g c sj ∧ Keeps (two b g) w wr)) (fun iv _ => n - (intOf iv).toNat)
  case atStart => exact ⟨0, by omega, rfl, s, hid ⟨rfl, H0.out.1, H0.out.2⟩⟩
  case round =>
    obtain ⟨j, hj, rfl, sj, hr⟩ := hrel
    clear H0
    by_cases hlt : j < n
    · have hlti : (j : Int) < n := by omega
      obtain ⟨⟨e, s'⟩, eqg⟩ : ∃ r, sj.put (uw (a + j)) (oat l j) = r := ⟨_, rfl⟩
      have HE : Hid (_ = _) := eqg
      have hwj : IntKind.u64.wrap (j : Int) = j := by rw [IntKind.wrap_u64]; omega
      obtain ⟨vk, vo, rfl, hc0⟩ := (HK.out.keeps hr.out.2.2 NE.out).at' j (by rw [HLN.out]; exact hlt)
      by_cases he : e = 0
      · subst he
        have HN : Hid (putK a l s (j + 1) = (0, s')) := hid <| by
          unfold putK
          rw [hr.out.1]
          simp [eqg]
        clear eqg hlt
        go_wp2_with fail
        have hh := hr.out.2.1
        refine (tput_r HE (uw_isW _) (hl j) hh).mono ?_
        rintro e_ w2 ⟨rfl, h2, k2⟩
        have HR := hid (And.intro h2 (hr.out.2.2.trans k2))
        clear hh h2 k2 hr HE hc0
        go_wp2_with fail
        go_roundw
        case rel => exact ⟨j + 1, by omega, by simp, s', hid ⟨HN.out, HR.out.1, HR.out.2⟩⟩
        case measure => simp [intOf]; omega
      · have HST : Hid (putK a l s n = (e, s')) := hid <| by
          have q : putK a l s (j + 1) = (e, s') := by
            unfold putK
            rw [hr.out.1]
            simp [eqg]
          have q2 := putK_stop a l s (j + 1) (by rw [q]; exact he) (n - (j + 1))
          rw [show j + 1 + (n - (j + 1)) = n by omega, q] at q2
          exact q2
        clear eqg hlt
        go_wp2_with fail
        have hh := hr.out.2.1
        refine (tput_r HE (uw_isW _) (hl j) hh).mono ?_
        rintro e_ w2 ⟨rfl, h2, k2⟩
        have HR := hid (And.intro h2 (hr.out.2.2.trans k2))
        clear hh h2 k2 hr HE hc0
        go_wp2_with fail
        go_ret
        rw [HG.out, HST.out]
        exact ⟨rfl, HR.out.1, HR.out.2⟩
    · obtain rfl : j = n := by omega
      clear hlt
      go_wp2_with fail
      go_ret
      rw [HG.out, hr.out.1]
      exact ⟨rfl, hr.out.2.1, hr.out.2.2⟩

end Go.Proofs.Ytalopkllldnipaa
