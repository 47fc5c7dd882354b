
/- Walks of ahead, course, courseUpto (layer 16); a history's past as it lies. No statement of the seat is proved here. -/
import Derived.Test.YthgkbmfnidehbaaDoorOpG
namespace Go.Proofs.YthgkbmfnidehbaaDoor
open Go.RowKit Go.Shelf

/-- Courses as they lie: a map of rows. -/
structure StAt (w : World) (mb base : Nat) (f : Int → Option Sl) (S : Crs2) : Prop where
  map : MapS w mb f
  dom : ∀ a, (f a).isSome = (S a).isSome
  row : ∀ a s, f a = some s → OwnR stC 2 104 w base s.v ((S a).getD [])
  ap : ∀ a b s t q, f a = some s → f b = some t → s.v.ownBlock = some q → t.v.ownBlock = some q → a = b
  lo : mb < base
theorem StAt.keeps {w w' : World} {mb base : Nat} {f : Int → Option Sl} {S : Crs2} {T : Nat → Prop} (h : StAt w mb base f S) (k : Keeps T w w') (hm : ¬ T mb) (hs : ∀ q, base ≤ q → q < w.heap.size → ¬ T q) : StAt w' mb base f S :=
  ⟨h.map.keeps k hm, h.dom, fun a s q => (h.row a s q).keeps k (fun g hg => hs g (own_block (h.row a s q).own hg).2 (own_block (h.row a s q).own hg).1), h.ap, h.lo⟩
/-- Words as they lie. -/
@[reducible] def wC (x : Int) : List Value := [.int .u64 x]
theorem wC_len (x : Int) : (wC x).length = 1 := rfl
theorem wC_ne (x : Int) : wC x ≠ [] := by simp
theorem wC_one (x : Int) : ∀ u ∈ wC x, u.oneCell' = true := by simp [Value.oneCell']
abbrev WsAt (w : World) (v : Value) (F : List Int) : Prop := ElsAt wC 1 w v F
set_option maxRecDepth 100000 in
set_option maxHeartbeats 8000000 in
theorem course_old (pb mb base : Nat) (f : Int → Option Sl) (S : Crs2) (ad : Int) (s : Sl) (w : World) (c4 : w.cell? ⟨pb, 4, none⟩ = some (.map (some mb))) (h : StAt w mb base f S) (hf : f ad = some s) : Calls Tryd.prog 45 #[.pointer (some ⟨pb, 0, none⟩), .int .u64 ad] w fun ex w' => ex = .returned s.v ∧ w' = w := by
  have hk := h.map.look ad
  unfold lookS at hk
  rw [hf] at hk
  simp only [Option.getD_some, Option.isSome_some] at hk
  obtain ⟨sa, sn, sc⟩ := s
  dsimp only [Sl.v] at hk ⊢
  clear hf h
  go_enter Tryd.func45, Tryd.ntmps45
  go_wp2
  go_ret
  exact ⟨rfl, rfl⟩
set_option maxRecDepth 100000 in
set_option maxHeartbeats 8000000 in
theorem course_new (pb mb base : Nat) (f : Int → Option Sl) (S : Crs2) (ad : Int) (v : Value) (F : List Int) (h0 : 0 ≤ ad) (h1 : ad < F.length) (w : World) (c0 : w.cell? ⟨pb, 0, none⟩ = some v) (c4 : w.cell? ⟨pb, 4, none⟩ = some (.map (some mb))) (hF : WsAt w v F) (h : StAt w mb base f S) (hf : f ad = none) : Calls Tryd.prog 45 #[.pointer (some ⟨pb, 0, none⟩), .int .u64 ad] w fun ex w' => ex = .returned (.slice (some ⟨w.heap.size, 0, none⟩) 1 1) ∧ w' = w.alloc (.cells #[.int .i64 0, .int .u64 (wdAt F ad)] 104) := by
  have hk := h.map.look ad
  unfold lookS at hk
  rw [hf] at hk
  simp only [Option.getD_none, Option.isSome_none, sl0] at hk
  obtain ⟨j, rfl⟩ := Int.eq_ofNat_of_zero_le h0
  obtain ⟨a, cap, rfl, hcap⟩ := hF.shape
  have hj : j < F.length := by omega
  obtain ⟨g, off, rfl, hc⟩ := hF.at j hj
  have y0 := hc 0 _ rfl
  rw [Nat.mul_one, Nat.add_zero] at y0
  have hwd : wdAt F (j : Int) = F[j] := by unfold wdAt; rw [Int.toNat_natCast, List.getElem?_eq_getElem hj]; rfl
  rw [hwd]
  generalize F[j]'hj = x at *
  have hj1 : (j : Int) < (F.length : Int) := by omega
  clear hf h hF hc hwd
  go_enter Tryd.func45, Tryd.ntmps45
  go_wp2
  go_ret
  exact ⟨rfl, rfl⟩
/-- What courseUpto answers: the beginning of the course. -/
def CuPost (l : List (Int × Int)) (n : Int) (B : Nat) (w : World) (ex : Ending) (w' : World) : Prop := ∃ (a : Option Addr) (c cap : Nat), ex = .returned (.slice a c cap) ∧ (∀ g off, a = some ⟨g, off, none⟩ → g < B ∨ w.heap.size ≤ g) ∧ c ≤ l.length ∧ (∀ j (hj : j < l.length), j < c → (l[j]).1 ≤ n) ∧ (∀ j (hj : j < l.length), c ≤ j → n < (l[j]).1) ∧ ElsAt stC 2 w' (.slice a c cap) (l.take c) ∧ Keeps (fun _ => False) w w'
set_option maxRecDepth 100000 in
set_option maxHeartbeats 8000000 in
theorem courseUpto_any (pb mb base : Nat) (f : Int → Option Sl) (S : Crs2) (ad : Int) (v : Value) (F : List Int) (n : Nat) (hn : n ≤ 1200000) (h0 : 0 ≤ ad) (h1 : ad < F.length) (w : World) (c0 : w.cell? ⟨pb, 0, none⟩ = some v) (c4 : w.cell? ⟨pb, 4, none⟩ = some (.map (some mb))) (hF : WsAt w v F) (h : StAt w mb base f S) (hl : (crs F S ad).length ≤ 1100000) (hc : (crs F S ad).Pairwise (fun p q => p.1 < q.1)) (B : Nat) (hBo : ∀ a s q, f a = some s → s.v.ownBlock = some q → q < B) :
    Calls Tryd.prog 35 #[.pointer (some ⟨pb, 0, none⟩), .int .u64 ad, .int .i64 (n : Int)] w (CuPost (crs F S ad) n B w) := by
  have CO : Calls Tryd.prog 45 #[.pointer (some ⟨pb, 0, none⟩), .int .u64 ad] w fun ex w' => ∃ (a : Option Addr) (cap : Nat), ex = .returned (.slice a (crs F S ad).length cap) ∧ (∀ g off, a = some ⟨g, off, none⟩ → g < B ∨ w.heap.size ≤ g) ∧ (crs F S ad).length ≤ cap ∧ ElsAt stC 2 w' (.slice a (crs F S ad).length cap) (crs F S ad) ∧ Keeps (fun _ => False) w w' := by
    cases hf : f ad with
    | none =>
      have hS : S ad = none := by have := h.dom ad; rw [hf] at this; simpa using this.symm
      have e : crs F S ad = [(0, wdAt F ad)] := by unfold crs; rw [hS]; rfl
      rw [e]
      refine (course_new pb mb base f S ad v F h0 h1 w c0 c4 hF h hf).mono ?_
      rintro ex w' ⟨rfl, rfl⟩
      exact ⟨_, 1, rfl, fun g off e => by cases e; exact .inr (Nat.le_refl _), Nat.le_refl _, ElsAt.one (c := stC) (0, wdAt F ad) rfl (MapKept.heap_alloc w _).1, (Keeps.refl _ w).alloc _⟩
    | some s =>
      have hS : S ad = some (crs F S ad) := by
        have := h.dom ad
        rw [hf] at this
        unfold crs
        cases q : S ad with
        | none => rw [q] at this; simp at this
        | some l => rfl
      have ho := h.row ad s hf
      rw [hS, Option.getD_some] at ho
      refine (course_old pb mb base f S ad s w c4 h hf).mono ?_
      rintro ex w' ⟨rfl, rfl⟩
      have he := ho.els st_len
      obtain ⟨a, cap, hv, hcap⟩ := he.shape
      rw [hv] at he ⊢
      exact ⟨a, cap, rfl, fun g off e => .inl (hBo ad s g hf (by rw [hv, e]; rfl)), hcap, he, Keeps.refl _ _⟩
  generalize crs F S ad = l at *
  have hw1 : IntKind.i64.wrap ((n : Int) + 1) = (n : Int) + 1 := by rw [IntKind.wrap_i64]; omega
  have HL : Hid (l.Pairwise (fun p q => p.1 < q.1)) := hc
  clear h hF hc c0 c4 hBo
  go_enter Tryd.func35, Tryd.ntmps35
  go_wp2_with fail
  refine CO.mono ?_
  rintro ex w1 ⟨a, cap, rfl, hab, hcap, he, k1⟩
  clear CO
  have BS := bsS_any a cap l ((n : Int) + 1) hl HL.out w1 he
  go_wp2_with fail
  refine BS.mono ?_
  rintro ex w2 ⟨c, b, rfl, hcl, b1, b2, k2⟩
  clear BS
  have hsl : ∀ W : World, (Instr.slice 102 (.slice a l.length cap) none (some (.int .i64 (c : Int))) none).run Tryd.prog W = .ok (.slice a c cap) W := fun W => run_uptoT Tryd.underlying102 info_st W _ _ _ _ (by omega)
  have HF : Hid (CuPost l n B w (.returned (.slice a c cap)) w2) := ⟨a, c, cap, rfl, hab, hcl, fun j hj q => by have := b1 j hj q; omega, fun j hj q => by have := b2 j hj q; omega, (he.keeps st_ne k2).take c hcl, k1.trans k2⟩
  clear b1 b2 he k1 k2 HL hab
  go_wp2_with fail
  go_ret
  exact HF.out
/-- How many writing commits stand ahead of a place. -/
def AhP (Y : List Bx) (t : Int) (w : World) (ex : Ending) (w' : World) : Prop := ∃ c : Nat, ex = .returned (.int .i64 (c : Int)) ∧ c ≤ Y.length ∧ (∀ j (hj : j < Y.length), j < c → (Y[j]).p.la < t) ∧ (∀ j (hj : j < Y.length), c ≤ j → t ≤ (Y[j]).p.la) ∧ Keeps (fun _ => False) w w'
set_option maxRecDepth 100000 in
set_option maxHeartbeats 8000000 in
theorem oahead_any (pb : Nat) (v : Value) (Y : List Bx) (t : Int) (hl : Y.length ≤ 1100000) (hs : Y.Pairwise (fun p q => p.p.la < q.p.la)) (w : World) (c3 : w.cell? ⟨pb, 3, none⟩ = some v) (h : ElsAt Bx.cb 9 w v Y) : Calls Tryd.prog 20 #[.pointer (some ⟨pb, 0, none⟩), .int .i64 t] w (AhP Y t w) := by
  obtain ⟨a, cap, rfl, hcap⟩ := h.shape
  have BS := bsB_any a cap Y t hl hs w h
  clear h hs
  go_enter Tryd.func20, Tryd.ntmps20
  go_wp2_with fail
  refine BS.mono ?_
  rintro ex w2 ⟨c, b, rfl, hcl, b1, b2, k2⟩
  clear BS
  have HF : Hid (AhP Y t w (.returned (.int .i64 (c : Int))) w2) := ⟨c, rfl, hcl, b1, b2, k2⟩
  clear b1 b2 k2
  go_wp2_with fail
  go_ret
  exact HF.out
end Go.Proofs.YthgkbmfnidehbaaDoor
