
/- Apart of one list (layer 22). No statement of the seat is proved here. -/
import Derived.Test.YtjgibkofenkehaaSlF
namespace Go.Proofs.Ytjgibkofenkehaa
open Go.RowKit

theorem info_sl : (Try.prog.info? 22).map (fun i => (i.zero, i.size, i.bytes)) = some (some (.slice none 0 0), 1, 24) := by kernel_rfl
structure A2 (w : World) (B : Nat) (v : Value) (n : Nat) (X : World) (m : Value) (k : Nat) : Prop where
  ap : Ap X B v m n k
  kp : Keeps (fun i => v.ownBlock = some i) w X
  ob : m.ownBlock = v.ownBlock ∨ ∀ g, m.ownBlock = some g → w.heap.size ≤ g
theorem A2.more {w X : World} {B n k : Nat} {v m : Value} (h : A2 w B v n X m k) (hB : B ≤ w.heap.size) (hn : n + k ≤ 100000) :
    ∃ m' X', Hid ((Builtin.append_ #[22, 22] 22 #[m, .slice (some ⟨X.heap.size, 0, none⟩) 1 1]).run Try.prog (X.alloc (.cells #[.int .u64 1099511627776] 32)) = .ok m' X') ∧ A2 w B v n X' m' (k + 1) := by
  obtain ⟨m', X', r1, r2, r3, r4⟩ := h.ap.push (Nat.le_trans hB h.kp.size) hn
  rw [MK_eq] at r1
  refine ⟨m', X', hid r1, r2, h.kp.step r3 (fun i hi e => ?_), ?_⟩
  · rcases h.ob with q | q
    · rw [← q]; exact e
    · have := q i e; omega
  · rcases r4 with q | q
    · rw [q]; exact h.ob
    · exact .inr fun g hg => Nat.le_trans h.kp.size (q g hg)
structure A3 (w : World) (B : Nat) (v : Value) (n : Nat) (X : World) (lv : Value) : Prop where
  m : ∃ lg c mv, lv = .slice (some ⟨lg, 0, none⟩) 1 c ∧ X.cell? ⟨lg, 0, none⟩ = some mv ∧ Ap X B v mv n 20
  kp : Keeps (fun i => v.ownBlock = some i) w X
theorem A2.last {w X : World} {B n : Nat} {v m : Value} (h : A2 w B v n X m 20) :
    ∃ lv X', Hid ((Builtin.append_ #[112, 112] 112 #[.slice none 0 0, .slice (some ⟨X.heap.size, 0, none⟩) 1 1]).run Try.prog (X.alloc (.cells #[m] 22)) = .ok lv X') ∧ A3 w B v n X' lv := by
  have k0 := keeps_new X (.cells #[m] 22)
  have b0 := alloc_block X (.cells #[m] 22)
  obtain ⟨a, c, hm⟩ := h.ap.m.form
  obtain ⟨lv, X', r1, r2, r3, r4⟩ := own_push (P := Try.prog) (X.alloc (.cells #[m] 22)) 0 112 112 22 _ 1 24 Try.underlying112 info_sl rfl (by decide) (.slice none 0 0) 0 [] ⟨rfl, .inl ⟨rfl, rfl⟩⟩ ⟨X.heap.size, 0, none⟩ 1 1 [m] rfl (fun j u hj => by
    rw [addr_add, Nat.zero_add, cell_of_block b0]
    simpa using hj) (fun u hu => by simp at hu; subst hu; rw [hm]; rfl) (by decide) (by decide) (Nat.zero_le _)
  have kp : Keeps (fun _ => False) X X' := ⟨r3.os.trans k0.os, r3.tape.trans k0.tape, r3.output.trans k0.output, Nat.le_trans k0.size r3.size, fun i hi hs => (r3.block i (by simp; omega) (by simp [Value.ownBlock])).trans (k0.block i hi (fun f => f))⟩
  refine ⟨lv, X', hid r1, ?_, h.kp.step kp (fun _ _ f => f.elim)⟩
  rcases r2.2 with ⟨_, e⟩ | ⟨lg, cap, cur, e, _⟩
  · omega
  · refine ⟨lg, cap, m, e, ?_, ⟨?_, own_keeps h.ap.m kp (fun _ _ f => f)⟩⟩
    · have q := r2.cells (g := lg) (by rw [e]; rfl) 0 m rfl
      rw [addr_add] at q
      exact q
    · obtain ⟨a, c, e, hc⟩ := h.ap.l
      refine ⟨a, c, e, fun i hi => ?_⟩
      obtain ⟨g, e1, h2⟩ := hc i hi
      exact ⟨g, e1, (World.cell?_of_block (kp.block g (World.block_lt_of_cell? _ _ h2) (fun f => f))).trans h2⟩
set_option maxRecDepth 100000 in
set_option maxHeartbeats 4000000 in
theorem apart1 (q : Nat) (v : Value) (L : List Int) (B : Nat) (hL : L.length ≤ 70000) (w : World) (hB : B ≤ w.heap.size) (hq : w.cell? ⟨q, 0, none⟩ = some v) (hv : Wr w B v L) (hvq : v.ownBlock ≠ some q) :
    Calls Try.prog 39 #[.slice (some ⟨q, 0, none⟩) 1 1] w fun e w' => e = .returned (.bool true) ∧ Keeps (fun i => v.ownBlock = some i) w w' := by
  have hql := World.block_lt_of_cell? _ _ hq
  have hrow : ∀ X, Keeps (fun i => v.ownBlock = some i) w X → X.cell? ⟨q, 0, none⟩ = some v := fun X k => (World.cell?_of_block (k.block q hql hvq)).trans hq
  have HR := hid hrow
  have h0 : P1 w B v L.length 0 w := ⟨Keeps.refl _ _, L, rfl, fun i hi => absurd hi (by omega), hv⟩
  obtain ⟨a, c, rfl⟩ := hv.form
  generalize L.length = n at *
  obtain ⟨v, hvd⟩ : ∃ v, v = Value.slice a n c := ⟨_, rfl⟩
  rw [← hvd] at HR h0
  have HV := hid hvd
  have HB := hid (And.intro hB hL)
  have HP0 := hid h0
  clear hrow hv hvq hql hB h0 hq
  go_enter Try.func39, Try.ntmps39
  go_wp2_with fail
  go_loopw [3] (fun i wr => (i = .int .i64 0 ∧ wr = w) ∨ (i = .int .i64 1 ∧ P1 w B v n n wr)) (fun i _ => 1 - (intOf i).toNat)
  case atStart => exact .inl ⟨rfl, rfl⟩
  case round =>
    rcases hrel with ⟨rfl, rfl⟩ | ⟨rfl, hP⟩
    · go_wp2_with fail
      go_loopw [4] (fun k wr' => ∃ m : Nat, m ≤ n ∧ k = .int .i64 m ∧ P1 wr B v n m wr') (fun k _ => n - (intOf k).toNat)
      case atStart => exact ⟨0, by omega, rfl, HP0.out⟩
      case round =>
        obtain ⟨m, hm, rfl, hP⟩ := hrel
        have hc1 := HR.out _ hP.kp
        rw [hvd] at hc1
        by_cases hmt : m < n
        · have hmt' : (m : Int) < (n : Int) := by omega
          obtain ⟨L', e1, _, e3⟩ := hP.wr
          obtain ⟨g, e4, e5⟩ := wr_cell e3 (i := m) (by omega)
          rcases e3.2 with ⟨_, e⟩ | ⟨g', cap, cur, e, _, hb, _⟩
          · omega
          have hgg : g' = g := by rw [e] at e4; exact Option.some.inj e4
          subst hgg
          have hf := frozen_of_block hb m
          have hPn := hP.put hmt e4
          rw [MK_eq] at hPn
          have HPn := hid hPn
          rw [hvd] at e
          injection e with e6 _ _
          subst e6
          clear hP hPn e1 e3 e4 hb
          go_wp2_with fail
          exact ⟨⟨m + 1, by omega, by go_num, HPn.out⟩, by simp [intOf]; omega⟩
        · have hmt' : ¬ (m : Int) < (n : Int) := by omega
          obtain rfl : m = n := by omega
          have HPn := hid hP
          clear hP
          go_wp2_with fail
          go_roundw
          case rel => exact .inr ⟨by go_num, HPn.out⟩
          case measure => simp [intOf]
    · have hc1 := HR.out _ hP.kp
      have HA0 : Hid (A2 w B v n wr v 0) := hid ⟨hP.ap, hP.kp, .inl rfl⟩
      clear hP HP0
      go_wp2_with fail
      go_loopw [5, 6] (fun lv i wr' => (lv = .slice none 0 0 ∧ i = .int .i64 0 ∧ wr' = wr) ∨ (i = .int .i64 1 ∧ A3 w B v n wr' lv)) (fun _ i _ => 1 - (intOf i).toNat)
      case atStart => exact .inl ⟨rfl, rfl, rfl⟩
      case round =>
        rcases hrel with ⟨rfl, rfl, rfl⟩ | ⟨rfl, hA3⟩
        · rw [hvd] at hc1
          go_wp2_with fail
          go_loopw [7, 8] (fun mv k wr' => ∃ j : Nat, j ≤ 20 ∧ k = .int .i64 j ∧ A2 w B v n wr' mv j) (fun _ k _ => 20 - (intOf k).toNat)
          case atStart => exact ⟨0, by omega, rfl, by rw [← hvd]; exact HA0.out⟩
          case round =>
            obtain ⟨j, hj, rfl, hA⟩ := hrel
            clear hc1
            by_cases hjl : j < 20
            · have hjl' : (j : Int) < 20 := by omega
              obtain ⟨mv', X', HR2, hA'⟩ := hA.more HB.out.1 (by have := HB.out.2; omega)
              have HA' := hid hA'
              clear hA hA'
              go_wp2_with (at_builtin; refine wpList_append_run rfl _ _ 22 rfl rfl rfl HR2.out ?_; clear HR2)
              exact ⟨⟨j + 1, by omega, by go_num, HA'.out⟩, by simp [intOf]; omega⟩
            · have hjl' : ¬ (j : Int) < 20 := by omega
              obtain rfl : j = 20 := by omega
              obtain ⟨ma, mc, hme⟩ := hA.ap.m.form
              rw [List.length_replicate] at hme
              subst hme
              obtain ⟨lv', X', HR2, hA'⟩ := hA.last
              have HA' := hid hA'
              clear hA hA'
              go_wp2_with (at_builtin; refine wpList_append_run rfl _ _ 112 rfl rfl rfl HR2.out ?_; clear HR2)
              go_roundw
              case rel => exact .inr ⟨by go_num, HA'.out⟩
              case measure => simp [intOf]
        · have hc2 := HR.out _ hA3.kp
          rw [hvd] at hc2
          obtain ⟨lg, lc, mv, rfl, hl, hap⟩ := hA3.m
          obtain ⟨ma, mc, rfl⟩ := hap.m.form
          rw [List.length_replicate] at hl
          have hm1 : ∀ k, k < n + 20 → ∃ g, ma = some ⟨g, 0, none⟩ ∧ wr.cell? ⟨g, k, none⟩ = some (.int .u64 1099511627776) := fun k hk => by
            obtain ⟨g, e1, e2⟩ := wr_cell hap.m (i := k) (by simp; exact hk)
            rcases hap.m.2 with ⟨_, e⟩ | ⟨g', cap, cur, e, _⟩
            · simp at e
            · injection e with e4 _ _
              subst e4
              have e5 : g' = g := Option.some.inj e1
              subst e5
              rw [oat_rep _ hk, MK_eq] at e2
              exact ⟨g', rfl, e2⟩
          have hl1 : ∀ k, k < n → ∃ g, a = some ⟨g, 0, none⟩ ∧ wr.cell? ⟨g, k, none⟩ = some (.int .u64 1099511627776) := fun k hk => by
            obtain ⟨a', c', e, h2⟩ := hap.l
            rw [hvd] at e
            injection e with e1 _ _
            subst e1
            rw [MK_eq] at h2
            exact h2 k hk
          have HM := hid (And.intro hm1 hl1)
          have HK := hid hA3.kp
          clear hA3 hap hm1 hl1 HA0 hc1 HR
          obtain ⟨W4, hW4⟩ : ∃ Z, Z = wr := ⟨_, rfl⟩
          subst hW4
          go_wp2_with fail
          go_loopw [9] (fun i wr' => (i = .int .i64 0 ∨ i = .int .i64 1) ∧ wr' = W4) (fun i _ => 1 - (intOf i).toNat)
          case atStart => exact ⟨.inl rfl, rfl⟩
          case round =>
            obtain ⟨rfl | rfl, rfl⟩ := hrel
            · go_wp2_with fail
              go_loopw [10] (fun k wr' => ∃ j : Nat, j ≤ n + 20 ∧ k = .int .i64 j ∧ wr' = wr) (fun k _ => n + 20 - (intOf k).toNat)
              case atStart => exact ⟨0, by omega, rfl, rfl⟩
              case round =>
                obtain ⟨j, hj, rfl, rfl⟩ := hrel
                by_cases hjl : j < n + 20
                · have hjl' : (j : Int) < (n : Int) + 20 := by omega
                  obtain ⟨mg, rfl, hmk⟩ := HM.out.1 j hjl
                  by_cases hnt : j < n
                  · have hnt' : (j : Int) < (n : Int) := by omega
                    obtain ⟨g, rfl, hlk⟩ := HM.out.2 j hnt
                    clear HM
                    go_wp2_with fail
                    exact ⟨⟨j + 1, by omega, by go_num, trivial⟩, by simp [intOf]; omega⟩
                  · have hnt' : ¬ (j : Int) < (n : Int) := by omega
                    clear HM
                    go_wp2_with fail
                    exact ⟨⟨j + 1, by omega, by go_num, trivial⟩, by simp [intOf]; omega⟩
                · have hjl' : ¬ (j : Int) < (n : Int) + 20 := by omega
                  clear HM
                  go_wp2_with fail
                  go_roundw
                  case rel => exact ⟨.inr (by go_num), trivial⟩
                  case measure => simp [intOf]
            · clear HM
              go_wp2_with fail
              go_ret
              exact ⟨rfl, by rw [← hvd]; exact HK.out⟩
end Go.Proofs.Ytjgibkofenkehaa
