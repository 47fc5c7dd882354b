/-
  No statement of the seat is proved here. (Several texts in one: AyD, AyE, AyF, AyFA, AyFB.)
-/
import Derived.Test.YtppejcfghlpbjaaGreatDoorM15AyQ

/- Walks of numbers (package asm). No statement of the seat is proved here. -/
namespace Go.Proofs.YtppejcfghlpbjaaGreatDoor
open Go.RowKit Go.Shelf

theorem Nms32.nil (w : World) : Nms32 w w.heap.size (.slice none 0 0) [] := ⟨⟨rfl, .inl ⟨rfl, rfl⟩⟩, Nat.le_refl _⟩
theorem Nms32.keeps {w w' : World} {base : Nat} {v : Value} {L : List Nat} {S : Nat → Prop} (h : Nms32 w base v L) (k : Keeps S w w') (hs : ∀ g, v.ownBlock = some g → ¬ S g) : Nms32 w' base v L :=
  ⟨own_keeps h.own k hs, Nat.le_trans h.base k.size⟩
theorem Nms32.push {w w0 : World} {v : Value} {L : List Nat} (h : Nms32 w w0.heap.size v L) (k : Keeps (fun _ => False) w0 w) (n : Nat) (hb : L.length ≤ 1048576) :
    ∃ v' w', (Builtin.append_ #[24, 24] 24 #[v, .slice (some ⟨w.heap.size, 0, none⟩) 1 1]).run Tryz.prog (w.alloc (.cells #[.int .u32 (n : Int)] 41)) = .ok v' w' ∧ Nms32 w' w0.heap.size v' (L ++ [n]) ∧ Keeps (fun _ => False) w0 w' := by
  obtain ⟨v', w', h1, h2, h3⟩ := own_push1 (P := Tryz.prog) w w0.heap.size 24 24 41 _ 1 4 Tryz.underlying24 info_u32 rfl (by decide) v L.length _ h.own [.int .u32 (n : Int)] rfl (by simp [Value.oneCell']) (by omega) (by decide) h.base
  exact ⟨v', w', h1, ⟨by simpa using h2, Nat.le_trans h.base h3.keeps.size⟩, kept_grew h3 k (fun g e => (own_block h.own e).2)⟩
/-- What is read, while more is to come and behind the last one. -/
def nxtM (m : Bool) (L : List Nat) (o : Option (List Nat)) : Option (List Nat) := if m = true then o.map (L ++ ·) else some L
def msrN (a b : Value) : Nat := match b with
  | .bool true => strLen a + 1
  | _ => 0

def NsPost64 (s : List UInt8) (w : World) (e : Ending) (w' : World) : Prop := match allM m64 (pcs s) with
  | some L => ∃ va vc, e = .returned (.tuple #[.slice va L.length vc, .bool true]) ∧ Nums w' w.heap.size (.slice va L.length vc) L
  | none => e = .returned (.tuple #[.slice none 0 0, .bool false])
set_option maxRecDepth 100000 in
set_option maxHeartbeats 4000000 in
theorem nums64_any (s : List UInt8) (hs : s.length ≤ 200000) (w : World) (hg : Gq w) : Calls Tryz.prog 46 #[.string ⟨s.toArray⟩, .int .i64 64] w fun e w' => NsPost64 s w e w' ∧ Keeps (fun _ => False) w w' := by
  have HBAD : Hid (allM m64 (pcs s) = none → ∀ W, NsPost64 s w (.returned (.tuple #[.slice none 0 0, .bool false])) W) := fun q W => by unfold NsPost64; rw [q]
  have HOK : Hid (∀ L v W, allM m64 (pcs s) = some L → Nums W w.heap.size v L → NsPost64 s w (.returned (.tuple #[v, .bool true])) W) := fun L v W q h => by
    unfold NsPost64
    rw [q]
    rcases h.own.2 with ⟨rfl, e⟩ | ⟨g, cap, cur, rfl, _⟩
    · exact ⟨none, 0, by rw [e], by rw [e]; exact h⟩
    · exact ⟨_, cap, rfl, h⟩
  have HNU : Hid (∀ (x : List UInt8) (X : World), x.length ≤ 200000 → Keeps (fun _ => False) w X → Calls Tryz.prog 67 #[.string ⟨x.toArray⟩, .int .i64 64] X fun e w' => N1Post m64 x e ∧ Keeps (fun _ => False) X w') := fun x X h k => num_any m64 (by decide) 64 (fun y Y hy gy => parse64_any y hy Y gy) x h X (hg.keeps k)
  have HCU : Hid (∀ (x : List UInt8) (X : World), x.length ≤ 200000 → Keeps (fun _ => False) w X → Calls Tryz.prog 44 #[.string ⟨x.toArray⟩, .string ⟨#[32]⟩] X fun ex w' => ex = .returned (.tuple #[.string ⟨(cutA 32 x).1.toArray⟩, .string ⟨(cutA 32 x).2.1.toArray⟩, .bool (cutA 32 x).2.2]) ∧ Keeps (fun _ => False) X w') := fun x X h k => cut_any 32 x h X (hg.keeps k).gp.gl
  have k0 := Keeps.refl (fun _ => False) w
  clear hg
  go_enter Tryz.func46, Tryz.ntmps46
  go_wp2_with fail
  go_loopw [0, 6, 7] (fun a0 a6 a7 wr => ∃ (q : List UInt8) (L : List Nat) (vo : Value) (m : Bool), a0 = .string ⟨q.toArray⟩ ∧ vo = a6 ∧ a7 = .bool m ∧ q.length ≤ 200000 ∧ Hid (q.length + L.length ≤ 200001 ∧ (m = true → q.length + L.length ≤ 200000) ∧ Nums wr w.heap.size vo L ∧ Keeps (fun _ => False) w wr ∧ allM m64 (pcs s) = nxtM m L (allM m64 (pcs q)))) (fun a0 _ a7 _ => msrN a0 a7)
  case atStart => exact ⟨s, [], _, true, rfl, rfl, rfl, hs, ⟨by simp; omega, fun _ => by simpa using hs, Nums.nil w, k0, by simp [nxtM]⟩⟩
  case round =>
    obtain ⟨q, L, vo, m, rfl, rfl, rfl, hq, hh⟩ := hrel
    obtain ⟨h1, h2, h3, h4, h5⟩ := hh.out
    clear hh
    cases m with
    | false =>
      have hR := HOK.out L vo wr (by rw [h5]; rfl) h3
      clear HBAD HOK HNU HCU h1 h2 h3 h5
      go_wp2_with fail
      go_ret2
      exact ⟨hR, h4⟩
    | true =>
      replace h2 := h2 rfl
      have CU := HCU.out q wr hq h4
      have hcl := cutA_len 32 q
      have hcs : (cutA 32 q).2.2 = true → (cutA 32 q).2.1.length + 1 ≤ q.length := fun h => by
        have e := congrArg List.length (cutA_yes q h).1
        simp only [List.length_append, List.length_cons] at e
        omega
      have HST : Hid (allM m64 (pcs q) = (numM m64 (cutA 32 q).1).bind fun n => if (cutA 32 q).2.2 = true then (allM m64 (pcs (cutA 32 q).2.1)).map (n :: ·) else some [n]) := allM_cut m64 q
      have hcn : (cutA 32 q).2.2 = false → (cutA 32 q).2.1 = [] := fun h => (cutA_no q h).2.1
      generalize cutA 32 q = r at *
      obtain ⟨hd, tl, mo⟩ := r
      dsimp only at *
      have NU := fun X k => HNU.out hd X (by omega) k
      clear HNU HCU
      have H5 : Hid (allM m64 (pcs s) = nxtM true L (allM m64 (pcs q))) := h5
      have H12 : Hid (q.length + L.length ≤ 200000 ∧ hd.length + tl.length ≤ q.length ∧ (mo = true → tl.length + 1 ≤ q.length) ∧ (mo = false → tl = [])) := ⟨h2, hcl, hcs, hcn⟩
      clear h1 h2 hcl hcs h5 hcn
      go_wp2_with fail
      refine CU.mono ?_
      rintro e w2 ⟨rfl, k2⟩
      have k2w := h4.trans k2
      have NU2 := NU w2 k2w
      unfold N1Post at NU2
      clear CU NU
      cases hnu : numM m64 hd with
      | none =>
        rw [hnu] at NU2
        dsimp only at NU2
        have HR : Hid (∀ W, NsPost64 s w (.returned (.tuple #[.slice none 0 0, .bool false])) W) := fun W => HBAD.out (by rw [H5.out, HST.out, hnu]; rfl) W
        clear HBAD HOK H5 H12 HST h3 hnu
        go_wp2_with fail
        refine NU2.mono ?_
        rintro e w3 ⟨⟨n, rfl, _⟩, k3⟩
        have k3w := k2w.trans k3
        clear NU2
        go_wp2_with fail
        go_ret2
        exact ⟨HR.out _, k3w⟩
      | some n =>
        rw [hnu] at NU2
        dsimp only at NU2
        have hnm := numM_le hnu
        have HE : Hid (allM m64 (pcs q) = if mo = true then (allM m64 (pcs tl)).map (n :: ·) else some [n]) := by unfold Hid; rw [HST.out, hnu]; rfl
        clear HBAD HOK HST hnu
        go_wp2_with fail
        refine NU2.mono ?_
        rintro e w3 ⟨rfl, k3⟩
        have k3w := k2w.trans k3
        obtain ⟨v2, w4, hrun, hnn, kn⟩ := ((h3.keeps k2 (fun _ _ f => f)).keeps k3 (fun _ _ f => f)).push k3w n (by have := H12.out.1; omega)
        have HR : Hid (_ = _) := hrun
        have fin : Hid (tl.length + (L ++ [n]).length ≤ 200001 ∧ (mo = true → tl.length + (L ++ [n]).length ≤ 200000) ∧ Nums w4 w.heap.size v2 (L ++ [n]) ∧ Keeps (fun _ => False) w w4 ∧ allM m64 (pcs s) = nxtM mo (L ++ [n]) (allM m64 (pcs tl))) := by
          obtain ⟨g1, g2, g3, g4⟩ := H12.out
          refine ⟨by simp; omega, fun h => by have := g3 h; simp; omega, hnn, kn, ?_⟩
          rw [H5.out, HE.out]
          cases mo with
          | true =>
            simp only [nxtM, if_true, Option.map_map]
            congr 1
            funext z
            simp
          | false => simp [nxtM]
        have HM : Hid (tl.length ≤ 200000 ∧ msrN (.string ⟨tl.toArray⟩) (.bool mo) < q.length + 1) := by
          obtain ⟨g1, g2, g3, g4⟩ := H12.out
          refine ⟨by omega, ?_⟩
          cases mo with
          | true => have := g3 rfl; simp [msrN, strLen, ByteArray.size]; omega
          | false => simp [msrN]
        clear hnm
        clear NU2 H5 H12 HE h3 h4 k2 k3 k2w k3w hrun hnn kn
        go_wp2_with (at_builtin; refine wpList_append_run rfl _ _ 22 rfl rfl rfl HR.out ?_)
        go_roundw
        · exact ⟨tl, L ++ [n], _, mo, rfl, rfl, rfl, HM.out.1, fin⟩
        · have := HM.out.2
          simpa [msrN, strLen, ByteArray.size] using this

def NsPost32 (s : List UInt8) (w : World) (e : Ending) (w' : World) : Prop := match allM m32 (pcs s) with
  | some L => ∃ va vc, e = .returned (.tuple #[.slice va L.length vc, .bool true]) ∧ Nms32 w' w.heap.size (.slice va L.length vc) L
  | none => e = .returned (.tuple #[.slice none 0 0, .bool false])
set_option maxRecDepth 100000 in
set_option maxHeartbeats 4000000 in
theorem nums32_any (s : List UInt8) (hs : s.length ≤ 200000) (w : World) (hg : Gq w) : Calls Tryz.prog 47 #[.string ⟨s.toArray⟩, .int .i64 32] w fun e w' => NsPost32 s w e w' ∧ Keeps (fun _ => False) w w' := by
  have HBAD : Hid (allM m32 (pcs s) = none → ∀ W, NsPost32 s w (.returned (.tuple #[.slice none 0 0, .bool false])) W) := fun q W => by unfold NsPost32; rw [q]
  have HOK : Hid (∀ L v W, allM m32 (pcs s) = some L → Nms32 W w.heap.size v L → NsPost32 s w (.returned (.tuple #[v, .bool true])) W) := fun L v W q h => by
    unfold NsPost32
    rw [q]
    rcases h.own.2 with ⟨rfl, e⟩ | ⟨g, cap, cur, rfl, _⟩
    · exact ⟨none, 0, by rw [e], by rw [e]; exact h⟩
    · exact ⟨_, cap, rfl, h⟩
  have HNU : Hid (∀ (x : List UInt8) (X : World), x.length ≤ 200000 → Keeps (fun _ => False) w X → Calls Tryz.prog 67 #[.string ⟨x.toArray⟩, .int .i64 32] X fun e w' => N1Post m32 x e ∧ Keeps (fun _ => False) X w') := fun x X h k => num_any m32 (by decide) 32 (fun y Y hy gy => parse32_any y hy Y gy) x h X (hg.keeps k)
  have HCU : Hid (∀ (x : List UInt8) (X : World), x.length ≤ 200000 → Keeps (fun _ => False) w X → Calls Tryz.prog 44 #[.string ⟨x.toArray⟩, .string ⟨#[32]⟩] X fun ex w' => ex = .returned (.tuple #[.string ⟨(cutA 32 x).1.toArray⟩, .string ⟨(cutA 32 x).2.1.toArray⟩, .bool (cutA 32 x).2.2]) ∧ Keeps (fun _ => False) X w') := fun x X h k => cut_any 32 x h X (hg.keeps k).gp.gl
  have k0 := Keeps.refl (fun _ => False) w
  clear hg
  go_enter Tryz.func47, Tryz.ntmps47
  go_wp2_with fail
  go_loopw [0, 6, 7] (fun a0 a6 a7 wr => ∃ (q : List UInt8) (L : List Nat) (vo : Value) (m : Bool), a0 = .string ⟨q.toArray⟩ ∧ vo = a6 ∧ a7 = .bool m ∧ q.length ≤ 200000 ∧ Hid (q.length + L.length ≤ 200001 ∧ (m = true → q.length + L.length ≤ 200000) ∧ Nms32 wr w.heap.size vo L ∧ Keeps (fun _ => False) w wr ∧ allM m32 (pcs s) = nxtM m L (allM m32 (pcs q)))) (fun a0 _ a7 _ => msrN a0 a7)
  case atStart => exact ⟨s, [], _, true, rfl, rfl, rfl, hs, ⟨by simp; omega, fun _ => by simpa using hs, Nms32.nil w, k0, by simp [nxtM]⟩⟩
  case round =>
    obtain ⟨q, L, vo, m, rfl, rfl, rfl, hq, hh⟩ := hrel
    obtain ⟨h1, h2, h3, h4, h5⟩ := hh.out
    clear hh
    cases m with
    | false =>
      have hR := HOK.out L vo wr (by rw [h5]; rfl) h3
      clear HBAD HOK HNU HCU h1 h2 h3 h5
      go_wp2_with fail
      go_ret2
      exact ⟨hR, h4⟩
    | true =>
      replace h2 := h2 rfl
      have CU := HCU.out q wr hq h4
      have hcl := cutA_len 32 q
      have hcs : (cutA 32 q).2.2 = true → (cutA 32 q).2.1.length + 1 ≤ q.length := fun h => by
        have e := congrArg List.length (cutA_yes q h).1
        simp only [List.length_append, List.length_cons] at e
        omega
      have HST : Hid (allM m32 (pcs q) = (numM m32 (cutA 32 q).1).bind fun n => if (cutA 32 q).2.2 = true then (allM m32 (pcs (cutA 32 q).2.1)).map (n :: ·) else some [n]) := allM_cut m32 q
      have hcn : (cutA 32 q).2.2 = false → (cutA 32 q).2.1 = [] := fun h => (cutA_no q h).2.1
      generalize cutA 32 q = r at *
      obtain ⟨hd, tl, mo⟩ := r
      dsimp only at *
      have NU := fun X k => HNU.out hd X (by omega) k
      clear HNU HCU
      have H5 : Hid (allM m32 (pcs s) = nxtM true L (allM m32 (pcs q))) := h5
      have H12 : Hid (q.length + L.length ≤ 200000 ∧ hd.length + tl.length ≤ q.length ∧ (mo = true → tl.length + 1 ≤ q.length) ∧ (mo = false → tl = [])) := ⟨h2, hcl, hcs, hcn⟩
      clear h1 h2 hcl hcs h5 hcn
      go_wp2_with fail
      refine CU.mono ?_
      rintro e w2 ⟨rfl, k2⟩
      have k2w := h4.trans k2
      have NU2 := NU w2 k2w
      unfold N1Post at NU2
      clear CU NU
      cases hnu : numM m32 hd with
      | none =>
        rw [hnu] at NU2
        dsimp only at NU2
        have HR : Hid (∀ W, NsPost32 s w (.returned (.tuple #[.slice none 0 0, .bool false])) W) := fun W => HBAD.out (by rw [H5.out, HST.out, hnu]; rfl) W
        clear HBAD HOK H5 H12 HST h3 hnu
        go_wp2_with fail
        refine NU2.mono ?_
        rintro e w3 ⟨⟨n, rfl, _⟩, k3⟩
        have k3w := k2w.trans k3
        clear NU2
        go_wp2_with fail
        go_ret2
        exact ⟨HR.out _, k3w⟩
      | some n =>
        rw [hnu] at NU2
        dsimp only at NU2
        have hnm := numM_le hnu
        have HE : Hid (allM m32 (pcs q) = if mo = true then (allM m32 (pcs tl)).map (n :: ·) else some [n]) := by unfold Hid; rw [HST.out, hnu]; rfl
        clear HBAD HOK HST hnu
        go_wp2_with fail
        refine NU2.mono ?_
        rintro e w3 ⟨rfl, k3⟩
        have k3w := k2w.trans k3
        obtain ⟨v2, w4, hrun, hnn, kn⟩ := ((h3.keeps k2 (fun _ _ f => f)).keeps k3 (fun _ _ f => f)).push k3w n (by have := H12.out.1; omega)
        have HR : Hid (_ = _) := hrun
        have fin : Hid (tl.length + (L ++ [n]).length ≤ 200001 ∧ (mo = true → tl.length + (L ++ [n]).length ≤ 200000) ∧ Nms32 w4 w.heap.size v2 (L ++ [n]) ∧ Keeps (fun _ => False) w w4 ∧ allM m32 (pcs s) = nxtM mo (L ++ [n]) (allM m32 (pcs tl))) := by
          obtain ⟨g1, g2, g3, g4⟩ := H12.out
          refine ⟨by simp; omega, fun h => by have := g3 h; simp; omega, hnn, kn, ?_⟩
          rw [H5.out, HE.out]
          cases mo with
          | true =>
            simp only [nxtM, if_true, Option.map_map]
            congr 1
            funext z
            simp
          | false => simp [nxtM]
        have HM : Hid (tl.length ≤ 200000 ∧ msrN (.string ⟨tl.toArray⟩) (.bool mo) < q.length + 1) := by
          obtain ⟨g1, g2, g3, g4⟩ := H12.out
          refine ⟨by omega, ?_⟩
          cases mo with
          | true => have := g3 rfl; simp [msrN, strLen, ByteArray.size]; omega
          | false => simp [msrN]
        have hcvn : IntKind.u32.wrap (n : Int) = (n : Int) := by
          have : n ≤ 4294967295 := hnm
          rw [IntKind.wrap_u32]; omega
        clear hnm
        clear NU2 H5 H12 HE h3 h4 k2 k3 k2w k3w hrun hnn kn
        go_wp2_with (at_builtin; refine wpList_append_run rfl _ _ 24 rfl rfl rfl HR.out ?_)
        go_roundw
        · exact ⟨tl, L ++ [n], _, mo, rfl, rfl, rfl, HM.out.1, fin⟩
        · have := HM.out.2
          simpa [msrN, strLen, ByteArray.size] using this
end Go.Proofs.YtppejcfghlpbjaaGreatDoor


/- Walks of cells and instruction (package asm, a script's lines). No statement of the seat is proved here. -/
namespace Go.Proofs.YtppejcfghlpbjaaGreatDoor
open Go.RowKit Go.Shelf

/-- What cells answers, and leaves. -/
def CePost (t : List UInt8) (B gx : Nat) (vf vp vk : Value) (ps : List Value) (x : Sc) (e : Ending) (W' : World) : Prop := match numM m63 t with
  | some c => e = .returned (.bool true) ∧ Sy W' B gx 1 vf vp vk ps { x with cells := c }
  | none => e = .returned (.bool false)
set_option maxRecDepth 100000 in
set_option maxHeartbeats 4000000 in
theorem cells_any (t : List UInt8) (ht : t.length ≤ 200000) (W : World) (hg : Gq W) {B gx d : Nat} {vf vp vk : Value} {ps : List Value} {x : Sc} (h : Sy W B gx d vf vp vk ps x) :
    Calls Tryz.prog 45 #[.pointer (some ⟨gx, 0, none⟩), .string ⟨t.toArray⟩] W fun e W' => CePost t B gx vf vp vk ps x e W' ∧ Keeps (fun q => q = gx) W W' := by
  have NU := num_any m63 (by decide) 63 (fun y Y hy gy => parse63_any y hy Y gy) t ht W hg
  unfold N1Post at NU
  have HC : Hid (∀ (c : Nat) W', numM m63 t = some c → Sy W' B gx 1 vf vp vk ps { x with cells := c } → CePost t B gx vf vp vk ps x (.returned (.bool true)) W') := fun c W' q h' => by unfold CePost; rw [q]; exact ⟨rfl, h'⟩
  have HN : Hid (numM m63 t = none → ∀ W', CePost t B gx vf vp vk ps x (.returned (.bool false)) W') := fun q W' => by unfold CePost; rw [q]
  have HS : Hid (∀ X, Keeps (fun _ => False) W X → Sy X B gx d vf vp vk ps x) := fun X k => h.keeps k
  clear hg h
  cases hn : numM m63 t with
  | none =>
    rw [hn] at NU
    dsimp only at NU
    have HR : Hid (∀ W', CePost t B gx vf vp vk ps x (.returned (.bool false)) W') := HN.out hn
    clear HC HN hn
    go_enter Tryz.func45, Tryz.ntmps45
    go_wp2_with fail
    refine NU.mono ?_
    rintro e W1 ⟨⟨n, rfl, hnm⟩, k1⟩
    have b1 := (HS.out W1 k1).box
    have d0 : W1.cell? ⟨gx, 0, none⟩ = some (.int .i64 (x.cells : Int)) := by rw [cell_of_block b1]; rfl
    have d4 : W1.cell? ⟨gx, 4, none⟩ = some (.int .i64 (d : Int)) := by rw [cell_of_block b1]; rfl
    have f0 : W1.frozen? ⟨gx, 0, none⟩ = false := frozen_of_block b1 _
    have f4 : W1.frozen? ⟨gx, 4, none⟩ = false := frozen_of_block b1 _
    have hcvn : IntKind.i64.wrap (n : Int) = (n : Int) := by
      have : n ≤ 9223372036854775807 := hnm
      rw [IntKind.wrap_i64]; omega
    have K : Hid (Keeps (fun q => q = gx) W ((W1.setCell ⟨gx, 0, none⟩ (.int .i64 (n : Int))).setCell ⟨gx, 4, none⟩ (.int .i64 1))) := Keeps.setCell (S := fun q => q = gx) (Keeps.setCell (S := fun q => q = gx) (k1.mono (fun _ _ f => f.elim)) (.inr rfl) _) (.inr rfl) _
    clear NU HS b1 k1 hnm
    go_wp2_with fail
    go_ret
    exact ⟨HR.out _, K.out⟩
  | some n =>
    rw [hn] at NU
    dsimp only at NU
    have hnm := numM_le hn
    have HR : Hid (∀ W', Sy W' B gx 1 vf vp vk ps { x with cells := n } → CePost t B gx vf vp vk ps x (.returned (.bool true)) W') := fun W' => HC.out n W' hn
    clear HC HN hn
    go_enter Tryz.func45, Tryz.ntmps45
    go_wp2_with fail
    refine NU.mono ?_
    rintro e W1 ⟨rfl, k1⟩
    have hs1 := HS.out W1 k1
    have b1 := hs1.box
    have d0 : W1.cell? ⟨gx, 0, none⟩ = some (.int .i64 (x.cells : Int)) := by rw [cell_of_block b1]; rfl
    have d4 : W1.cell? ⟨gx, 4, none⟩ = some (.int .i64 (d : Int)) := by rw [cell_of_block b1]; rfl
    have f0 : W1.frozen? ⟨gx, 0, none⟩ = false := frozen_of_block b1 _
    have f4 : W1.frozen? ⟨gx, 4, none⟩ = false := frozen_of_block b1 _
    have hcvn : IntKind.i64.wrap (n : Int) = (n : Int) := by
      have : n ≤ 9223372036854775807 := hnm
      rw [IntKind.wrap_i64]; omega
    have HF : Hid (CePost t B gx vf vp vk ps x (.returned (.bool true)) ((W1.setCell ⟨gx, 0, none⟩ (.int .i64 (n : Int))).setCell ⟨gx, 4, none⟩ (.int .i64 1))) := HR.out _ ((hs1.setCells n).setDue 1)
    have K : Hid (Keeps (fun q => q = gx) W ((W1.setCell ⟨gx, 0, none⟩ (.int .i64 (n : Int))).setCell ⟨gx, 4, none⟩ (.int .i64 1))) := Keeps.setCell (S := fun q => q = gx) (Keeps.setCell (S := fun q => q = gx) (k1.mono (fun _ _ f => f.elim)) (.inr rfl) _) (.inr rfl) _
    clear NU HS hs1 b1 k1 hnm HR
    go_wp2_with fail
    go_ret
    exact ⟨HF.out, K.out⟩

theorem lastPush_le (ps : List (List I5)) (i : I5) : ∀ p ∈ lastPush ps i, ∃ q ∈ ps, p.length ≤ q.length + 1 := by
  intro p hp
  unfold lastPush at hp
  obtain ⟨k, hk, rfl⟩ := List.getElem_of_mem hp
  rw [List.length_modify] at hk
  refine ⟨ps[k], List.getElem_mem hk, ?_⟩
  rw [List.getElem_modify]
  split <;> simp
theorem load_ins_op {P : Program} {o : Oper} {a : Act} {w : World} {x : Operand} {ty : TypeId} (ho : o.op = .load ty x) (g : Nat) (hx : a.eval x = .pointer (some ⟨g, 0, none⟩)) (t : TypeId) (cs : Array Value) (fr : Nat × Nat) (d : TypeDesc) (hg : w.heap[g]? = some (.cells cs t fr))
    (hu : P.underlying ty = some d) (hd : (match d with | .struct _ | .array _ _ => true | _ => false) = true) (hi : (P.info? ty).map (·.size) = some cs.size) : (execOp a.eval o).run P w = .ok (.value (.agg cs)) w := by
  unfold execOp
  simp only [ho, hx, Instr.loadAt, Instr.sureAddr, Sem.run_bind, Sem.run_pure, Result.andThen_ok, run_loadVar_row w g t ty cs fr d hg hu hd hi]

/-- What instruction answers, and leaves. -/
def IlPost (l : List UInt8) (B gx d : Nat) (vf vp vk : Value) (x : Sc) (e : Ending) (W' : World) : Prop := match parseL l with
  | some i => e = .returned (.bool true) ∧ ∃ ps', Sy W' B gx d vf vp vk ps' { x with progs := lastPush x.progs i }
  | none => e = .returned (.bool false)
set_option maxRecDepth 100000 in
set_option maxHeartbeats 8000000 in
theorem ins_walk (l : List UInt8) (W : World) {B gx d : Nat} {vf vp vk : Value} {ps : List Value} {x : Sc} (h : Sy W B gx d vf vp vk ps x) (hB : B ≤ W.heap.size) (m : Nat) (hm : x.progs.length = m + 1) (hmm : m ≤ 200001) (hlen : ∀ p ∈ x.progs, p.length ≤ 200000) (io ia ib ic iN er : Int) (hwf : I5.wf ⟨io, ia, ib, ic, iN⟩)
    (bo : Bool) (hbo : (er == 0) = bo) (PA : Calls Tryz.prog 68 #[.string ⟨l.toArray⟩] W fun e w' => e = .returned (.tuple #[.agg #[.int .i64 io, .int .i64 ia, .int .i64 ib, .int .i64 ic, .int .u64 iN], .int .i64 er]) ∧ Keeps (fun _ => False) W w') :
    Calls Tryz.prog 48 #[.pointer (some ⟨gx, 0, none⟩), .string ⟨l.toArray⟩] W fun e W' => e = .returned (.bool bo) ∧ (∃ ps', Sy W' B gx d vf vp vk ps' { x with progs := lastPush x.progs ⟨io, ia, ib, ic, iN⟩ }) ∧ Keeps (SyOwn gx vp ps) W W' := by
  have hmx : Tryz.prog.follows .mixedOrders = true := by kernel_rfl
  have hmp : m < ps.length := by rw [h.plen]; omega
  go_enter Tryz.func48, Tryz.ntmps48
  go_wp2_with fail
  refine PA.mono ?_
  rintro e w1 ⟨rfl, k1⟩
  have kA : Keeps (fun _ => False) w1 (w1.alloc (.cells #[.int .i64 io, .int .i64 ia, .int .i64 ib, .int .i64 ic, .int .u64 iN] 45)) := (Keeps.refl (fun _ => False) w1).alloc _
  have bA := alloc_block w1 (.cells #[.int .i64 io, .int .i64 ia, .int .i64 ib, .int .i64 ic, .int .u64 iN] 45)
  obtain ⟨X, hX⟩ : ∃ X, X = w1.alloc (.cells #[.int .i64 io, .int .i64 ia, .int .i64 ib, .int .i64 ic, .int .u64 iN] 45) := ⟨_, rfl⟩
  have HX : Hid (X = w1.alloc (.cells #[.int .i64 io, .int .i64 ia, .int .i64 ib, .int .i64 ic, .int .u64 iN] 45)) := hX
  rw [← hX] at kA bA
  have kd : Keeps (fun _ => False) X X.drew := (Keeps.refl _ _).drewN 1
  have hsX := h.keeps (k1.trans kA)
  have hBX : B ≤ X.drew.heap.size := Nat.le_trans hB (((k1.trans kA).trans kd).size)
  obtain ⟨gp, pcap, v', W', rfl, hpc, hcm, hrun, hwk, hngx, hngp, hcu, hfr, hs2, hgp, hk2⟩ := (hsX.keeps kd).addIns hBX ⟨io, ia, ib, ic, iN⟩ hwf m hm (by have := hlen _ (List.getElem_mem (by omega : m < x.progs.length)); omega)
  have hngi : (ps[m]'hmp).ownBlock ≠ some w1.heap.size := fun e => by
    have := (own_block ((h.keeps k1).each m hmp (by omega)).own e).1
    omega
  obtain ⟨lb, ll, lc, hps⟩ := own_form (h.each m hmp (by omega)).own
  have hvf := own_form (hs2.each m (by simp; omega) (by simp [lastPush]; omega)).own
  simp only [List.getElem_set_self] at hvf
  obtain ⟨vb2, vn2, vc2, rfl⟩ := hvf
  have KF : Hid (Keeps (SyOwn gx (.slice (some ⟨gp, 0, none⟩) (m + 1) pcap) ps) W (W'.setCell ⟨gp, m, none⟩ (.slice vb2 vn2 vc2))) := by
    refine (((k1.trans kA).trans kd).mono (fun _ _ f => f.elim)).trans (hk2.mono (fun q _ e => ?_))
    rcases e with e | e
    · subst e; exact .inr (.inl hgp)
    · exact .inr (.inr ⟨_, List.getElem_mem hmp, e⟩)
  have FS : Hid (∃ ps', Sy (W'.setCell ⟨gp, m, none⟩ (.slice vb2 vn2 vc2)) B gx d vf (.slice (some ⟨gp, 0, none⟩) (m + 1) pcap) vk ps' { x with progs := lastPush x.progs ⟨io, ia, ib, ic, iN⟩ }) := ⟨_, hs2⟩
  rw [hps] at hcm hrun hwk hngx hngp hngi
  have bx : X.drew.heap[gx]? = _ := (hsX.keeps kd).box
  have bx' := (hwk gx (lt_of_block bx) hngx).trans bx
  have bi : X.drew.heap[w1.heap.size]? = some (.cells #[.int .i64 io, .int .i64 ia, .int .i64 ib, .int .i64 ic, .int .u64 iN] 45 (0, 0)) := bA
  have bi' := (hwk _ (lt_of_block bi) hngi).trans bi
  have cg := World.block_lt_of_cell? _ _ hcm
  have cgW : W'.cell? ⟨gp, m, none⟩ = X.drew.cell? ⟨gp, m, none⟩ := by simp only [World.cell?, hwk gp cg hngp]
  have c2x : X.cell? ⟨gx, 2, none⟩ = some (.slice (some ⟨gp, 0, none⟩) (m + 1) pcap) := by rw [cell_of_block hsX.box]; rfl
  have c2w : (w1.alloc (.cells #[.int .i64 io, .int .i64 ia, .int .i64 ib, .int .i64 ic, .int .u64 iN] 45)).cell? ⟨gx, 2, none⟩ = some (.slice (some ⟨gp, 0, none⟩) (m + 1) pcap) := by rw [← hX]; exact c2x
  have hm1 : (m : Int) + 1 - 1 = (m : Int) := by omega
  have hmc : (m : Int) < pcap := by omega
  have hmi : (m : Int) ≤ 200001 := by omega
  have S0 : (fun X : World => X.cell? ⟨gx, 2, none⟩ = some (.slice (some ⟨gp, 0, none⟩) (m + 1) pcap) ∧ X.cell? ⟨gp, m, none⟩ = some (.slice lb ll lc) ∧ X.heap[w1.heap.size]? = some (.cells #[.int .i64 io, .int .i64 ia, .int .i64 ib, .int .i64 ic, .int .u64 iN] 45 (0, 0))) X.drew := ⟨by rw [cell_of_block bx]; rfl, hcm, bi⟩
  have S1 : (fun X : World => X.cell? ⟨gx, 2, none⟩ = some (.slice (some ⟨gp, 0, none⟩) (m + 1) pcap) ∧ X.cell? ⟨gp, m, none⟩ = some (.slice lb ll lc) ∧ X.heap[w1.heap.size]? = some (.cells #[.int .i64 io, .int .i64 ia, .int .i64 ib, .int .i64 ic, .int .u64 iN] 45 (0, 0))) (X.drew.alloc (.cells #[.int .i64 io, .int .i64 ia, .int .i64 ib, .int .i64 ic, .int .u64 iN] 45)) := ⟨((Keeps.refl (fun _ => False) X.drew).alloc _).cell (fun f => f) S0.1, ((Keeps.refl (fun _ => False) X.drew).alloc _).cell (fun f => f) S0.2.1, ((MapKept.heap_alloc X.drew _).2 _ (lt_of_block bi)).trans bi⟩
  have S4 : (fun X : World => X.cell? ⟨gx, 2, none⟩ = some (.slice (some ⟨gp, 0, none⟩) (m + 1) pcap) ∧ X.cell? ⟨gp, m, none⟩ = some (.slice lb ll lc) ∧ X.heap[w1.heap.size]? = some (.cells #[.int .i64 io, .int .i64 ia, .int .i64 ib, .int .i64 ic, .int .u64 iN] 45 (0, 0))) W' := ⟨by rw [cell_of_block bx']; rfl, cgW.trans hcm, bi'⟩
  have HA : Hid (_ = _) := hrun
  obtain ⟨cu, hcu⟩ := hcu
  clear PA h hsX hs2 hk2 hX kA bA kd hBX hpc hcm hrun hwk hngx hngp hngi hps bx bx' bi bi' cg cgW hm hmm hlen hwf hgp k1 hB
  go_wp2_with fail
  rw [← HX.out]
  refine wp_until (S := (fun X : World => X.cell? ⟨gx, 2, none⟩ = some (.slice (some ⟨gp, 0, none⟩) (m + 1) pcap) ∧ X.cell? ⟨gp, m, none⟩ = some (.slice lb ll lc) ∧ X.heap[w1.heap.size]? = some (.cells #[.int .i64 io, .int .i64 ia, .int .i64 ib, .int .i64 ic, .int .u64 iN] 45 (0, 0)))) 18 19 rfl hmx ?_
  generalize X.drew = Vd at *
  simp only [Array.replicate_succ, Array.replicate_zero, List.push_toArray, List.nil_append, List.cons_append]
  refine u_take (i := 0) (v := .pointer (some ⟨gx, 0, none⟩)) 20 rfl rfl (by kernel_rfl) (by kernel_rfl) (by kernel_rfl) (by kernel_rfl) rfl (fun w' hw' => by obtain ⟨r0, r1, r2⟩ := hw'; go_simp) S0 ?_
  simp only [Act.put, List.setIfInBounds_toArray, List.set_cons_zero, List.set_cons_succ]
  refine u_take (i := 1) (v := .pointer (some ⟨gx, 0, none⟩)) 21 rfl rfl (by kernel_rfl) (by kernel_rfl) (by kernel_rfl) (by kernel_rfl) rfl (fun w' hw' => by obtain ⟨r0, r1, r2⟩ := hw'; go_simp) S0 ?_
  simp only [Act.put, List.setIfInBounds_toArray, List.set_cons_zero, List.set_cons_succ]
  refine u_take (i := 2) (v := .pointer (some ⟨gx, 0, none⟩)) 22 rfl rfl (by kernel_rfl) (by kernel_rfl) (by kernel_rfl) (by kernel_rfl) rfl (fun w' hw' => by obtain ⟨r0, r1, r2⟩ := hw'; go_simp) S0 ?_
  simp only [Act.put, List.setIfInBounds_toArray, List.set_cons_zero, List.set_cons_succ]
  refine u_take (i := 3) (v := .pointer (some ⟨gx, 2, none⟩)) 23 rfl rfl (by kernel_rfl) (by kernel_rfl) (by kernel_rfl) (by kernel_rfl) rfl (fun w' hw' => by obtain ⟨r0, r1, r2⟩ := hw'; go_simp) S0 ?_
  simp only [Act.put, List.setIfInBounds_toArray, List.set_cons_zero, List.set_cons_succ]
  refine u_take (i := 4) (v := .slice (some ⟨gp, 0, none⟩) (m + 1) pcap) 24 rfl rfl (by kernel_rfl) (by kernel_rfl) (by kernel_rfl) (by kernel_rfl) rfl (fun w' hw' => by obtain ⟨r0, r1, r2⟩ := hw'; go_simp) S0 ?_
  simp only [Act.put, List.setIfInBounds_toArray, List.set_cons_zero, List.set_cons_succ]
  refine u_take (i := 5) (v := .int .i64 (m : Int)) 25 rfl rfl (by kernel_rfl) (by kernel_rfl) (by kernel_rfl) (by kernel_rfl) rfl (fun w' hw' => by obtain ⟨r0, r1, r2⟩ := hw'; go_simp) S0 ?_
  simp only [Act.put, List.setIfInBounds_toArray, List.set_cons_zero, List.set_cons_succ]
  refine u_take (i := 6) (v := .pointer (some ⟨gx, 0, none⟩)) 26 rfl rfl (by kernel_rfl) (by kernel_rfl) (by kernel_rfl) (by kernel_rfl) rfl (fun w' hw' => by obtain ⟨r0, r1, r2⟩ := hw'; go_simp) S0 ?_
  simp only [Act.put, List.setIfInBounds_toArray, List.set_cons_zero, List.set_cons_succ]
  refine u_take (i := 7) (v := .pointer (some ⟨gx, 0, none⟩)) 27 rfl rfl (by kernel_rfl) (by kernel_rfl) (by kernel_rfl) (by kernel_rfl) rfl (fun w' hw' => by obtain ⟨r0, r1, r2⟩ := hw'; go_simp) S0 ?_
  simp only [Act.put, List.setIfInBounds_toArray, List.set_cons_zero, List.set_cons_succ]
  refine u_take (i := 8) (v := .pointer (some ⟨gx, 0, none⟩)) 28 rfl rfl (by kernel_rfl) (by kernel_rfl) (by kernel_rfl) (by kernel_rfl) rfl (fun w' hw' => by obtain ⟨r0, r1, r2⟩ := hw'; go_simp) S0 ?_
  simp only [Act.put, List.setIfInBounds_toArray, List.set_cons_zero, List.set_cons_succ]
  refine u_take (i := 9) (v := .pointer (some ⟨gx, 2, none⟩)) 29 rfl rfl (by kernel_rfl) (by kernel_rfl) (by kernel_rfl) (by kernel_rfl) rfl (fun w' hw' => by obtain ⟨r0, r1, r2⟩ := hw'; go_simp) S0 ?_
  simp only [Act.put, List.setIfInBounds_toArray, List.set_cons_zero, List.set_cons_succ]
  refine u_take (i := 10) (v := .slice (some ⟨gp, 0, none⟩) (m + 1) pcap) 30 rfl rfl (by kernel_rfl) (by kernel_rfl) (by kernel_rfl) (by kernel_rfl) rfl (fun w' hw' => by obtain ⟨r0, r1, r2⟩ := hw'; go_simp) S0 ?_
  simp only [Act.put, List.setIfInBounds_toArray, List.set_cons_zero, List.set_cons_succ]
  refine u_take (i := 11) (v := .int .i64 (m : Int)) 31 rfl rfl (by kernel_rfl) (by kernel_rfl) (by kernel_rfl) (by kernel_rfl) rfl (fun w' hw' => by obtain ⟨r0, r1, r2⟩ := hw'; go_simp) S0 ?_
  simp only [Act.put, List.setIfInBounds_toArray, List.set_cons_zero, List.set_cons_succ]
  refine u_take (i := 12) (v := .pointer (some ⟨gp, m, none⟩)) 32 rfl rfl (by kernel_rfl) (by kernel_rfl) (by kernel_rfl) (by kernel_rfl) rfl (fun w' hw' => by obtain ⟨r0, r1, r2⟩ := hw'; go_simp; intro hh9; omega) S0 ?_
  simp only [Act.put, List.setIfInBounds_toArray, List.set_cons_zero, List.set_cons_succ]
  refine u_take (i := 13) (v := .slice lb ll lc) 33 rfl rfl (by kernel_rfl) (by kernel_rfl) (by kernel_rfl) (by kernel_rfl) rfl (fun w' hw' => by obtain ⟨r0, r1, r2⟩ := hw'; go_simp) S0 ?_
  simp only [Act.put, List.setIfInBounds_toArray, List.set_cons_zero, List.set_cons_succ]
  refine u_take (i := 14) (v := .agg #[.int .i64 io, .int .i64 ia, .int .i64 ib, .int .i64 ic, .int .u64 iN]) 34 rfl rfl (by kernel_rfl) (by kernel_rfl) (by kernel_rfl) (by kernel_rfl) rfl (fun w' hw' => load_ins_op rfl w1.heap.size rfl 45 _ (0, 0) _ hw'.2.2 Tryz.underlying45 rfl (by rw [size_ins]; rfl)) S0 ?_
  simp only [Act.put, List.setIfInBounds_toArray, List.set_cons_zero, List.set_cons_succ]
  refine u_val (i := 15) (v := .slice (some ⟨Vd.heap.size, 0, none⟩) 1 1) (w' := Vd.alloc (.cells #[.int .i64 io, .int .i64 ia, .int .i64 ib, .int .i64 ic, .int .u64 iN] 45)) (some 35) (by kernel_rfl) rfl rfl rfl (by go_simp) S1 ?_
  simp only [Act.put, List.setIfInBounds_toArray, List.set_cons_zero, List.set_cons_succ]
  refine u_val (i := 16) (v := .slice vb2 vn2 vc2) (w' := W') (some 36) (by kernel_rfl) rfl rfl rfl (run_append_op rfl rfl rfl HA.out) S4 ?_
  simp only [Act.put, List.setIfInBounds_toArray, List.set_cons_zero, List.set_cons_succ]
  refine u_val (i := 17) (v := .pointer (some ⟨gp, m, none⟩)) (w' := W') (some 37) (by kernel_rfl) rfl rfl rfl (by go_simp; intro hh9; omega) S4 ?_
  simp only [Act.put, List.setIfInBounds_toArray, List.set_cons_zero, List.set_cons_succ]
  refine u_last (w' := W'.setCell ⟨gp, m, none⟩ (.slice vb2 vn2 vc2)) (by kernel_rfl) rfl rfl rfl (by go_simp) (by kernel_rfl) ?_
  clear S0 S1 S4 HA hcu hfr c2x c2w HX
  go_wp2_with fail
  go_ret
  exact ⟨rfl, FS.out, KF.out⟩
theorem ins_any (l : List UInt8) (hl : l.length ≤ 200000) (W : World) (hg : Gq W) {B gx d : Nat} {vf vp vk : Value} {ps : List Value} {x : Sc} (h : Sy W B gx d vf vp vk ps x) (hB : B ≤ W.heap.size) (m : Nat) (hm : x.progs.length = m + 1) (hmm : m ≤ 200001) (hlen : ∀ p ∈ x.progs, p.length ≤ 200000) :
    Calls Tryz.prog 48 #[.pointer (some ⟨gx, 0, none⟩), .string ⟨l.toArray⟩] W fun e W' => IlPost l B gx d vf vp vk x e W' ∧ Keeps (SyOwn gx vp ps) W W' := by
  have PA := parse_any l (by omega) W hg.gp.gl
  unfold PPost at PA
  unfold IlPost
  cases hp : parseL l with
  | none =>
    rw [hp] at PA
    dsimp only at PA
    exact (ins_walk l W h hB m hm hmm hlen 0 0 0 0 0 180 ⟨by decide, by decide, by decide, by decide, by decide, by decide⟩ false rfl PA).mono fun e W' ⟨h1, _, h3⟩ => ⟨h1, h3⟩
  | some i =>
    rw [hp] at PA
    obtain ⟨io, ia, ib, ic, iN⟩ := i
    have hwf : I5.wf ⟨io, ia, ib, ic, iN⟩ := by
      obtain ⟨q1, _, q3, q4⟩ := text_parse hp
      obtain ⟨⟨h0, h1⟩, -, ⟨ha0, ha1⟩, ⟨hb0, hb1⟩, ⟨hc0, hc1⟩⟩ := formed_facts q1
      dsimp only at h0 h1 ha0 ha1 hb0 hb1 hc0 hc1 q3 q4
      exact ⟨by constructor <;> (dsimp only; omega), by constructor <;> (dsimp only; omega), by constructor <;> (dsimp only; omega), by constructor <;> (dsimp only; omega), q3, q4⟩
    exact (ins_walk l W h hB m hm hmm hlen io ia ib ic iN 0 hwf true rfl PA).mono fun e W' ⟨h1, h2, h3⟩ => ⟨⟨h1, h2⟩, h3⟩
end Go.Proofs.YtppejcfghlpbjaaGreatDoor


/- Walk of line (package asm, a script's lines), leaf by leaf. No statement of the seat is proved here. -/
namespace Go.Proofs.YtppejcfghlpbjaaGreatDoor
open Go.RowKit Go.Shelf

theorem SyOwn.box (gx : Nat) (vp : Value) (ps : List Value) : SyOwn gx vp ps gx := .inl rfl
theorem keeps_own {W W' : World} {gx : Nat} {vp : Value} {ps : List Value} (k : Keeps (fun q => q = gx) W W') : Keeps (SyOwn gx vp ps) W W' := k.mono (fun _ _ e => .inl e)
/-- What a line of picks, and one of first words, answers and leaves. -/
def PkPost (tl : List UInt8) (B gx : Nat) (vf vp : Value) (ps : List Value) (x : Sc) (e : Ending) (W' : World) : Prop := match allM m32 (pcs tl) with
  | some L => e = .returned (.bool true) ∧ ∃ vk', Sy W' B gx 4 vf vp vk' ps { x with picks := L }
  | none => e = .returned (.bool false)
def FiPost (tl : List UInt8) (B gx : Nat) (vp vk : Value) (ps : List Value) (x : Sc) (e : Ending) (W' : World) : Prop := match allM m64 (pcs tl) with
  | some L => e = .returned (.bool true) ∧ ∃ vf', Sy W' B gx 2 vf' vp vk ps { x with first := L }
  | none => e = .returned (.bool false)
theorem keeps_none {W W' : World} {S : Nat → Prop} (k : Keeps (fun _ => False) W W') : Keeps S W W' := k.mono (fun _ _ f => f.elim)
end Go.Proofs.YtppejcfghlpbjaaGreatDoor


/- Walk of line (package asm, a script's lines), leaf by leaf. No statement of the seat is proved here. -/
namespace Go.Proofs.YtppejcfghlpbjaaGreatDoor
open Go.RowKit Go.Shelf

set_option maxRecDepth 100000 in
set_option maxHeartbeats 4000000 in
theorem li_cells_no (l s hd tl : List UInt8) (mo : Bool) (W : World) {B gx : Nat} {vf vp vk : Value} {ps : List Value} {x : Sc} (h : Sy W B gx 0 vf vp vk ps x) (CS : Calls Tryz.prog 43 #[.string ⟨l.toArray⟩, .string ⟨#[10]⟩] W fun e w' => e = .returned (.tuple #[.string ⟨s.toArray⟩, .bool true]) ∧ w' = W)
    (CU : Calls Tryz.prog 44 #[.string ⟨s.toArray⟩, .string ⟨#[32]⟩] W fun ex w' => ex = .returned (.tuple #[.string ⟨hd.toArray⟩, .string ⟨tl.toArray⟩, .bool mo]) ∧ Keeps (fun _ => False) W w') (h_cells : hd ≠ [99, 101, 108, 108, 115]) : Calls Tryz.prog 27 #[.pointer (some ⟨gx, 0, none⟩), .string ⟨l.toArray⟩] W fun e W' => e = .returned (.bool false) ∧ Keeps (SyOwn gx vp ps) W W' := by
  have d4 : W.cell? ⟨gx, 4, none⟩ = some (.int .i64 0) := by rw [cell_of_block h.box]; rfl
  have hs1 : Hid (∀ X, Keeps (fun _ => False) W X → Sy X B gx 0 vf vp vk ps x) := fun X k => h.keeps k
  have hbhd59 : (ByteArray.toList ⟨hd.toArray⟩ == [99, 101, 108, 108, 115]) = false := by simpa using h_cells
  have hchd59 : (hd == [99, 101, 108, 108, 115]) = false := by simpa using h_cells
  clear h h_cells
  go_enter Tryz.func27, Tryz.ntmps27
  go_wp2_with fail
  refine CS.mono ?_
  rintro e w' ⟨rfl, hw⟩
  replace hw := hw.symm
  subst hw
  clear CS
  go_wp2_with fail
  refine CU.mono ?_
  rintro e W1 ⟨rfl, k1⟩
  clear CU
  have b1 := (hs1.out W1 k1).box
  replace d4 : W1.cell? ⟨gx, 4, none⟩ = some (.int .i64 0) := by rw [cell_of_block b1]; rfl
  generalize hd.toArray = hdA at *
  have kf := keeps_none (S := SyOwn gx vp ps) k1
  clear hs1 b1 k1
  go_wp2_with fail
  go_ret
  exact ⟨rfl, kf⟩
set_option maxRecDepth 100000 in
set_option maxHeartbeats 4000000 in
theorem li_cells (l s hd tl : List UInt8) (mo : Bool) (W : World) {B gx : Nat} {vf vp vk : Value} {ps : List Value} {x : Sc} (h : Sy W B gx 0 vf vp vk ps x) (CS : Calls Tryz.prog 43 #[.string ⟨l.toArray⟩, .string ⟨#[10]⟩] W fun e w' => e = .returned (.tuple #[.string ⟨s.toArray⟩, .bool true]) ∧ w' = W)
    (CU : Calls Tryz.prog 44 #[.string ⟨s.toArray⟩, .string ⟨#[32]⟩] W fun ex w' => ex = .returned (.tuple #[.string ⟨hd.toArray⟩, .string ⟨tl.toArray⟩, .bool mo]) ∧ Keeps (fun _ => False) W w') (h_cells : hd = [99, 101, 108, 108, 115]) (ht : tl.length ≤ 200000) (HG : Hid (∀ X, Keeps (fun _ => False) W X → Gq X)) : Calls Tryz.prog 27 #[.pointer (some ⟨gx, 0, none⟩), .string ⟨l.toArray⟩] W fun e W' => CePost tl B gx vf vp vk ps x e W' ∧ Keeps (SyOwn gx vp ps) W W' := by
  have d4 : W.cell? ⟨gx, 4, none⟩ = some (.int .i64 0) := by rw [cell_of_block h.box]; rfl
  have hs1 : Hid (∀ X, Keeps (fun _ => False) W X → Sy X B gx 0 vf vp vk ps x) := fun X k => h.keeps k
  have hbhd59 : (ByteArray.toList ⟨hd.toArray⟩ == [99, 101, 108, 108, 115]) = true := by rw [h_cells]; simp
  have hchd59 : (hd == [99, 101, 108, 108, 115]) = true := by rw [h_cells]; simp
  clear h h_cells
  go_enter Tryz.func27, Tryz.ntmps27
  go_wp2_with fail
  refine CS.mono ?_
  rintro e w' ⟨rfl, hw⟩
  replace hw := hw.symm
  subst hw
  clear CS
  go_wp2_with fail
  refine CU.mono ?_
  rintro e W1 ⟨rfl, k1⟩
  clear CU
  have b1 := (hs1.out W1 k1).box
  replace d4 : W1.cell? ⟨gx, 4, none⟩ = some (.int .i64 0) := by rw [cell_of_block b1]; rfl
  generalize hd.toArray = hdA at *
  have CE := cells_any tl ht W1 (HG.out W1 k1) (hs1.out W1 k1)
  clear hs1 b1 HG
  go_wp2_with fail
  refine CE.mono ?_
  rintro e W2 ⟨hp, k2⟩
  have kf := (keeps_none (S := SyOwn gx vp ps) k1).trans (keeps_own k2)
  have hb : ∃ b, e = .returned (.bool b) := by
    unfold CePost at hp
    cases hn : numM m63 tl with
    | none => rw [hn] at hp; exact ⟨_, hp⟩
    | some c => rw [hn] at hp; exact ⟨_, hp.1⟩
  obtain ⟨b, rfl⟩ := hb
  clear CE k1 k2
  go_wp2_with fail
  go_ret
  exact ⟨hp, kf⟩
set_option maxRecDepth 100000 in
set_option maxHeartbeats 4000000 in
theorem li_none1 (l s hd tl : List UInt8) (mo : Bool) (W : World) {B gx : Nat} {vf vp vk : Value} {ps : List Value} {x : Sc} (h : Sy W B gx 1 vf vp vk ps x) (CS : Calls Tryz.prog 43 #[.string ⟨l.toArray⟩, .string ⟨#[10]⟩] W fun e w' => e = .returned (.tuple #[.string ⟨s.toArray⟩, .bool true]) ∧ w' = W)
    (CU : Calls Tryz.prog 44 #[.string ⟨s.toArray⟩, .string ⟨#[32]⟩] W fun ex w' => ex = .returned (.tuple #[.string ⟨hd.toArray⟩, .string ⟨tl.toArray⟩, .bool mo]) ∧ Keeps (fun _ => False) W w') (h_thread : s ≠ [116, 104, 114, 101, 97, 100]) (h_first : hd ≠ [102, 105, 114, 115, 116]) (h_picks : hd ≠ [112, 105, 99, 107, 115]) : Calls Tryz.prog 27 #[.pointer (some ⟨gx, 0, none⟩), .string ⟨l.toArray⟩] W fun e W' => e = .returned (.bool false) ∧ Keeps (SyOwn gx vp ps) W W' := by
  have d4 : W.cell? ⟨gx, 4, none⟩ = some (.int .i64 1) := by rw [cell_of_block h.box]; rfl
  have hs1 : Hid (∀ X, Keeps (fun _ => False) W X → Sy X B gx 1 vf vp vk ps x) := fun X k => h.keeps k
  have hbs66 : (ByteArray.toList ⟨s.toArray⟩ == [116, 104, 114, 101, 97, 100]) = false := by simpa using h_thread
  have hcs66 : (s == [116, 104, 114, 101, 97, 100]) = false := by simpa using h_thread
  have hbhd52 : (ByteArray.toList ⟨hd.toArray⟩ == [102, 105, 114, 115, 116]) = false := by simpa using h_first
  have hchd52 : (hd == [102, 105, 114, 115, 116]) = false := by simpa using h_first
  have hbhd52 : (ByteArray.toList ⟨hd.toArray⟩ == [112, 105, 99, 107, 115]) = false := by simpa using h_picks
  have hchd52 : (hd == [112, 105, 99, 107, 115]) = false := by simpa using h_picks
  clear h h_thread h_first h_picks
  go_enter Tryz.func27, Tryz.ntmps27
  go_wp2_with fail
  refine CS.mono ?_
  rintro e w' ⟨rfl, hw⟩
  replace hw := hw.symm
  subst hw
  clear CS
  go_wp2_with fail
  refine CU.mono ?_
  rintro e W1 ⟨rfl, k1⟩
  clear CU
  have b1 := (hs1.out W1 k1).box
  replace d4 : W1.cell? ⟨gx, 4, none⟩ = some (.int .i64 1) := by rw [cell_of_block b1]; rfl
  generalize hd.toArray = hdA at *
  generalize s.toArray = sA at *
  have kf := keeps_none (S := SyOwn gx vp ps) k1
  clear hs1 b1 k1
  go_wp2_with fail
  go_ret
  exact ⟨rfl, kf⟩
set_option maxRecDepth 100000 in
set_option maxHeartbeats 4000000 in
theorem li_none2 (l s hd tl : List UInt8) (mo : Bool) (W : World) {B gx : Nat} {vf vp vk : Value} {ps : List Value} {x : Sc} (h : Sy W B gx 2 vf vp vk ps x) (CS : Calls Tryz.prog 43 #[.string ⟨l.toArray⟩, .string ⟨#[10]⟩] W fun e w' => e = .returned (.tuple #[.string ⟨s.toArray⟩, .bool true]) ∧ w' = W)
    (CU : Calls Tryz.prog 44 #[.string ⟨s.toArray⟩, .string ⟨#[32]⟩] W fun ex w' => ex = .returned (.tuple #[.string ⟨hd.toArray⟩, .string ⟨tl.toArray⟩, .bool mo]) ∧ Keeps (fun _ => False) W w') (h_thread : s ≠ [116, 104, 114, 101, 97, 100]) (h_first : hd ≠ [102, 105, 114, 115, 116]) (h_picks : hd ≠ [112, 105, 99, 107, 115]) : Calls Tryz.prog 27 #[.pointer (some ⟨gx, 0, none⟩), .string ⟨l.toArray⟩] W fun e W' => e = .returned (.bool false) ∧ Keeps (SyOwn gx vp ps) W W' := by
  have d4 : W.cell? ⟨gx, 4, none⟩ = some (.int .i64 2) := by rw [cell_of_block h.box]; rfl
  have hs1 : Hid (∀ X, Keeps (fun _ => False) W X → Sy X B gx 2 vf vp vk ps x) := fun X k => h.keeps k
  have hbs66 : (ByteArray.toList ⟨s.toArray⟩ == [116, 104, 114, 101, 97, 100]) = false := by simpa using h_thread
  have hcs66 : (s == [116, 104, 114, 101, 97, 100]) = false := by simpa using h_thread
  have hbhd52 : (ByteArray.toList ⟨hd.toArray⟩ == [102, 105, 114, 115, 116]) = false := by simpa using h_first
  have hchd52 : (hd == [102, 105, 114, 115, 116]) = false := by simpa using h_first
  have hbhd52 : (ByteArray.toList ⟨hd.toArray⟩ == [112, 105, 99, 107, 115]) = false := by simpa using h_picks
  have hchd52 : (hd == [112, 105, 99, 107, 115]) = false := by simpa using h_picks
  clear h h_thread h_first h_picks
  go_enter Tryz.func27, Tryz.ntmps27
  go_wp2_with fail
  refine CS.mono ?_
  rintro e w' ⟨rfl, hw⟩
  replace hw := hw.symm
  subst hw
  clear CS
  go_wp2_with fail
  refine CU.mono ?_
  rintro e W1 ⟨rfl, k1⟩
  clear CU
  have b1 := (hs1.out W1 k1).box
  replace d4 : W1.cell? ⟨gx, 4, none⟩ = some (.int .i64 2) := by rw [cell_of_block b1]; rfl
  generalize hd.toArray = hdA at *
  generalize s.toArray = sA at *
  have kf := keeps_none (S := SyOwn gx vp ps) k1
  clear hs1 b1 k1
  go_wp2_with fail
  go_ret
  exact ⟨rfl, kf⟩
set_option maxRecDepth 100000 in
set_option maxHeartbeats 4000000 in
theorem li_none2f (l s hd tl : List UInt8) (mo : Bool) (W : World) {B gx : Nat} {vf vp vk : Value} {ps : List Value} {x : Sc} (h : Sy W B gx 2 vf vp vk ps x) (CS : Calls Tryz.prog 43 #[.string ⟨l.toArray⟩, .string ⟨#[10]⟩] W fun e w' => e = .returned (.tuple #[.string ⟨s.toArray⟩, .bool true]) ∧ w' = W)
    (CU : Calls Tryz.prog 44 #[.string ⟨s.toArray⟩, .string ⟨#[32]⟩] W fun ex w' => ex = .returned (.tuple #[.string ⟨hd.toArray⟩, .string ⟨tl.toArray⟩, .bool mo]) ∧ Keeps (fun _ => False) W w') (h_thread : s ≠ [116, 104, 114, 101, 97, 100]) (h_first : hd = [102, 105, 114, 115, 116]) (h_picks : hd ≠ [112, 105, 99, 107, 115]) : Calls Tryz.prog 27 #[.pointer (some ⟨gx, 0, none⟩), .string ⟨l.toArray⟩] W fun e W' => e = .returned (.bool false) ∧ Keeps (SyOwn gx vp ps) W W' := by
  have d4 : W.cell? ⟨gx, 4, none⟩ = some (.int .i64 2) := by rw [cell_of_block h.box]; rfl
  have hs1 : Hid (∀ X, Keeps (fun _ => False) W X → Sy X B gx 2 vf vp vk ps x) := fun X k => h.keeps k
  have hbs66 : (ByteArray.toList ⟨s.toArray⟩ == [116, 104, 114, 101, 97, 100]) = false := by simpa using h_thread
  have hcs66 : (s == [116, 104, 114, 101, 97, 100]) = false := by simpa using h_thread
  have hbhd52 : (ByteArray.toList ⟨hd.toArray⟩ == [102, 105, 114, 115, 116]) = true := by rw [h_first]; simp
  have hchd52 : (hd == [102, 105, 114, 115, 116]) = true := by rw [h_first]; simp
  have hbhd52 : (ByteArray.toList ⟨hd.toArray⟩ == [112, 105, 99, 107, 115]) = false := by simpa using h_picks
  have hchd52 : (hd == [112, 105, 99, 107, 115]) = false := by simpa using h_picks
  clear h h_thread h_first h_picks
  go_enter Tryz.func27, Tryz.ntmps27
  go_wp2_with fail
  refine CS.mono ?_
  rintro e w' ⟨rfl, hw⟩
  replace hw := hw.symm
  subst hw
  clear CS
  go_wp2_with fail
  refine CU.mono ?_
  rintro e W1 ⟨rfl, k1⟩
  clear CU
  have b1 := (hs1.out W1 k1).box
  replace d4 : W1.cell? ⟨gx, 4, none⟩ = some (.int .i64 2) := by rw [cell_of_block b1]; rfl
  generalize hd.toArray = hdA at *
  generalize s.toArray = sA at *
  have kf := keeps_none (S := SyOwn gx vp ps) k1
  clear hs1 b1 k1
  go_wp2_with fail
  go_ret
  exact ⟨rfl, kf⟩
end Go.Proofs.YtppejcfghlpbjaaGreatDoor


/- Walk of line (package asm, a script's lines), leaf by leaf. No statement of the seat is proved here. -/
namespace Go.Proofs.YtppejcfghlpbjaaGreatDoor
open Go.RowKit Go.Shelf

set_option maxRecDepth 100000 in
set_option maxHeartbeats 4000000 in
theorem li_thread1 (l s hd tl : List UInt8) (mo : Bool) (W : World) {B gx : Nat} {vf vp vk : Value} {ps : List Value} {x : Sc} (h : Sy W B gx 1 vf vp vk ps x) (CS : Calls Tryz.prog 43 #[.string ⟨l.toArray⟩, .string ⟨#[10]⟩] W fun e w' => e = .returned (.tuple #[.string ⟨s.toArray⟩, .bool true]) ∧ w' = W)
    (CU : Calls Tryz.prog 44 #[.string ⟨s.toArray⟩, .string ⟨#[32]⟩] W fun ex w' => ex = .returned (.tuple #[.string ⟨hd.toArray⟩, .string ⟨tl.toArray⟩, .bool mo]) ∧ Keeps (fun _ => False) W w') (h_thread : s = [116, 104, 114, 101, 97, 100]) (hB : B ≤ W.heap.size) (hpl : x.progs.length ≤ 1048576) : Calls Tryz.prog 27 #[.pointer (some ⟨gx, 0, none⟩), .string ⟨l.toArray⟩] W fun e W' => e = .returned (.bool true) ∧ (∃ vp' ps', Sy W' B gx 3 vf vp' vk ps' { x with progs := x.progs ++ [[]] }) ∧ Keeps (SyOwn gx vp ps) W W' := by
  have d4 : W.cell? ⟨gx, 4, none⟩ = some (.int .i64 1) := by rw [cell_of_block h.box]; rfl
  have hs1 : Hid (∀ X, Keeps (fun _ => False) W X → Sy X B gx 1 vf vp vk ps x) := fun X k => h.keeps k
  have hbs66 : (ByteArray.toList ⟨s.toArray⟩ == [116, 104, 114, 101, 97, 100]) = true := by rw [h_thread]; simp
  have hcs66 : (s == [116, 104, 114, 101, 97, 100]) = true := by rw [h_thread]; simp
  clear h h_thread
  go_enter Tryz.func27, Tryz.ntmps27
  go_wp2_with fail
  refine CS.mono ?_
  rintro e w' ⟨rfl, hw⟩
  replace hw := hw.symm
  subst hw
  clear CS
  go_wp2_with fail
  refine CU.mono ?_
  rintro e W1 ⟨rfl, k1⟩
  clear CU
  have b1 := (hs1.out W1 k1).box
  replace d4 : W1.cell? ⟨gx, 4, none⟩ = some (.int .i64 1) := by rw [cell_of_block b1]; rfl
  generalize s.toArray = sA at *
  have hsx := hs1.out W1 k1
  obtain ⟨v', W', hrun, hbx, hwk, hsx2, hk2⟩ := hsx.addProg (Nat.le_trans hB k1.size) hpl
  obtain ⟨pb, pn, pc, rfl⟩ := own_form hsx.progs
  obtain ⟨pb2, pn2, pc2, rfl⟩ := own_form hsx2.progs
  have c0 : W1.cell? ⟨gx, 2, none⟩ = some (.slice pb pn pc) := by rw [cell_of_block b1]; rfl
  have HR : Hid (_ = _) := hrun
  have bx2 := hbx.trans hsx.box
  have c2 : W'.cell? ⟨gx, 2, none⟩ = some (.slice pb pn pc) := by rw [cell_of_block bx2]; rfl
  have f2 : W'.frozen? ⟨gx, 2, none⟩ = false := frozen_of_block bx2 _
  have c4 : W'.cell? ⟨gx, 4, none⟩ = some (.int .i64 1) := by rw [cell_of_block bx2]; rfl
  have f4 : W'.frozen? ⟨gx, 4, none⟩ = false := frozen_of_block bx2 _
  have FS : Hid (∃ vp' ps', Sy ((W'.setCell ⟨gx, 2, none⟩ (.slice pb2 pn2 pc2)).setCell ⟨gx, 4, none⟩ (.int .i64 3)) B gx 3 vf vp' vk ps' { x with progs := x.progs ++ [[]] }) := ⟨_, _, hsx2.setDue 3⟩
  have KF : Hid (Keeps (SyOwn gx (.slice pb pn pc) ps) W ((W'.setCell ⟨gx, 2, none⟩ (.slice pb2 pn2 pc2)).setCell ⟨gx, 4, none⟩ (.int .i64 3))) := Keeps.setCell (S := SyOwn gx (.slice pb pn pc) ps) ((keeps_none k1).trans (hk2.mono (fun q _ e => e.elim (fun e => .inl e) (fun e => .inr (.inl e))))) (.inr (.inl rfl)) _
  clear hs1 b1 hsx hrun hbx hwk hsx2 hk2 bx2 k1 hB hpl
  go_wp2_with (at_builtin; refine wpList_append_run rfl _ _ 23 rfl rfl rfl HR.out ?_)
  go_ret
  exact ⟨rfl, FS.out, KF.out⟩
set_option maxRecDepth 100000 in
set_option maxHeartbeats 4000000 in
theorem li_thread2 (l s hd tl : List UInt8) (mo : Bool) (W : World) {B gx : Nat} {vf vp vk : Value} {ps : List Value} {x : Sc} (h : Sy W B gx 2 vf vp vk ps x) (CS : Calls Tryz.prog 43 #[.string ⟨l.toArray⟩, .string ⟨#[10]⟩] W fun e w' => e = .returned (.tuple #[.string ⟨s.toArray⟩, .bool true]) ∧ w' = W)
    (CU : Calls Tryz.prog 44 #[.string ⟨s.toArray⟩, .string ⟨#[32]⟩] W fun ex w' => ex = .returned (.tuple #[.string ⟨hd.toArray⟩, .string ⟨tl.toArray⟩, .bool mo]) ∧ Keeps (fun _ => False) W w') (h_thread : s = [116, 104, 114, 101, 97, 100]) (hB : B ≤ W.heap.size) (hpl : x.progs.length ≤ 1048576) : Calls Tryz.prog 27 #[.pointer (some ⟨gx, 0, none⟩), .string ⟨l.toArray⟩] W fun e W' => e = .returned (.bool true) ∧ (∃ vp' ps', Sy W' B gx 3 vf vp' vk ps' { x with progs := x.progs ++ [[]] }) ∧ Keeps (SyOwn gx vp ps) W W' := by
  have d4 : W.cell? ⟨gx, 4, none⟩ = some (.int .i64 2) := by rw [cell_of_block h.box]; rfl
  have hs1 : Hid (∀ X, Keeps (fun _ => False) W X → Sy X B gx 2 vf vp vk ps x) := fun X k => h.keeps k
  have hbs66 : (ByteArray.toList ⟨s.toArray⟩ == [116, 104, 114, 101, 97, 100]) = true := by rw [h_thread]; simp
  have hcs66 : (s == [116, 104, 114, 101, 97, 100]) = true := by rw [h_thread]; simp
  clear h h_thread
  go_enter Tryz.func27, Tryz.ntmps27
  go_wp2_with fail
  refine CS.mono ?_
  rintro e w' ⟨rfl, hw⟩
  replace hw := hw.symm
  subst hw
  clear CS
  go_wp2_with fail
  refine CU.mono ?_
  rintro e W1 ⟨rfl, k1⟩
  clear CU
  have b1 := (hs1.out W1 k1).box
  replace d4 : W1.cell? ⟨gx, 4, none⟩ = some (.int .i64 2) := by rw [cell_of_block b1]; rfl
  generalize s.toArray = sA at *
  have hsx := hs1.out W1 k1
  obtain ⟨v', W', hrun, hbx, hwk, hsx2, hk2⟩ := hsx.addProg (Nat.le_trans hB k1.size) hpl
  obtain ⟨pb, pn, pc, rfl⟩ := own_form hsx.progs
  obtain ⟨pb2, pn2, pc2, rfl⟩ := own_form hsx2.progs
  have c0 : W1.cell? ⟨gx, 2, none⟩ = some (.slice pb pn pc) := by rw [cell_of_block b1]; rfl
  have HR : Hid (_ = _) := hrun
  have bx2 := hbx.trans hsx.box
  have c2 : W'.cell? ⟨gx, 2, none⟩ = some (.slice pb pn pc) := by rw [cell_of_block bx2]; rfl
  have f2 : W'.frozen? ⟨gx, 2, none⟩ = false := frozen_of_block bx2 _
  have c4 : W'.cell? ⟨gx, 4, none⟩ = some (.int .i64 2) := by rw [cell_of_block bx2]; rfl
  have f4 : W'.frozen? ⟨gx, 4, none⟩ = false := frozen_of_block bx2 _
  have FS : Hid (∃ vp' ps', Sy ((W'.setCell ⟨gx, 2, none⟩ (.slice pb2 pn2 pc2)).setCell ⟨gx, 4, none⟩ (.int .i64 3)) B gx 3 vf vp' vk ps' { x with progs := x.progs ++ [[]] }) := ⟨_, _, hsx2.setDue 3⟩
  have KF : Hid (Keeps (SyOwn gx (.slice pb pn pc) ps) W ((W'.setCell ⟨gx, 2, none⟩ (.slice pb2 pn2 pc2)).setCell ⟨gx, 4, none⟩ (.int .i64 3))) := Keeps.setCell (S := SyOwn gx (.slice pb pn pc) ps) ((keeps_none k1).trans (hk2.mono (fun q _ e => e.elim (fun e => .inl e) (fun e => .inr (.inl e))))) (.inr (.inl rfl)) _
  clear hs1 b1 hsx hrun hbx hwk hsx2 hk2 bx2 k1 hB hpl
  go_wp2_with (at_builtin; refine wpList_append_run rfl _ _ 23 rfl rfl rfl HR.out ?_)
  go_ret
  exact ⟨rfl, FS.out, KF.out⟩
set_option maxRecDepth 100000 in
set_option maxHeartbeats 4000000 in
theorem li_thread3 (l s hd tl : List UInt8) (mo : Bool) (W : World) {B gx : Nat} {vf vp vk : Value} {ps : List Value} {x : Sc} (h : Sy W B gx 3 vf vp vk ps x) (CS : Calls Tryz.prog 43 #[.string ⟨l.toArray⟩, .string ⟨#[10]⟩] W fun e w' => e = .returned (.tuple #[.string ⟨s.toArray⟩, .bool true]) ∧ w' = W)
    (CU : Calls Tryz.prog 44 #[.string ⟨s.toArray⟩, .string ⟨#[32]⟩] W fun ex w' => ex = .returned (.tuple #[.string ⟨hd.toArray⟩, .string ⟨tl.toArray⟩, .bool mo]) ∧ Keeps (fun _ => False) W w') (h_thread : s = [116, 104, 114, 101, 97, 100]) (hB : B ≤ W.heap.size) (hpl : x.progs.length ≤ 1048576) : Calls Tryz.prog 27 #[.pointer (some ⟨gx, 0, none⟩), .string ⟨l.toArray⟩] W fun e W' => e = .returned (.bool true) ∧ (∃ vp' ps', Sy W' B gx 3 vf vp' vk ps' { x with progs := x.progs ++ [[]] }) ∧ Keeps (SyOwn gx vp ps) W W' := by
  have d4 : W.cell? ⟨gx, 4, none⟩ = some (.int .i64 3) := by rw [cell_of_block h.box]; rfl
  have hs1 : Hid (∀ X, Keeps (fun _ => False) W X → Sy X B gx 3 vf vp vk ps x) := fun X k => h.keeps k
  have hbs66 : (ByteArray.toList ⟨s.toArray⟩ == [116, 104, 114, 101, 97, 100]) = true := by rw [h_thread]; simp
  have hcs66 : (s == [116, 104, 114, 101, 97, 100]) = true := by rw [h_thread]; simp
  clear h h_thread
  go_enter Tryz.func27, Tryz.ntmps27
  go_wp2_with fail
  refine CS.mono ?_
  rintro e w' ⟨rfl, hw⟩
  replace hw := hw.symm
  subst hw
  clear CS
  go_wp2_with fail
  refine CU.mono ?_
  rintro e W1 ⟨rfl, k1⟩
  clear CU
  have b1 := (hs1.out W1 k1).box
  replace d4 : W1.cell? ⟨gx, 4, none⟩ = some (.int .i64 3) := by rw [cell_of_block b1]; rfl
  generalize s.toArray = sA at *
  have hsx := hs1.out W1 k1
  obtain ⟨v', W', hrun, hbx, hwk, hsx2, hk2⟩ := hsx.addProg (Nat.le_trans hB k1.size) hpl
  obtain ⟨pb, pn, pc, rfl⟩ := own_form hsx.progs
  obtain ⟨pb2, pn2, pc2, rfl⟩ := own_form hsx2.progs
  have c0 : W1.cell? ⟨gx, 2, none⟩ = some (.slice pb pn pc) := by rw [cell_of_block b1]; rfl
  have HR : Hid (_ = _) := hrun
  have bx2 := hbx.trans hsx.box
  have c2 : W'.cell? ⟨gx, 2, none⟩ = some (.slice pb pn pc) := by rw [cell_of_block bx2]; rfl
  have f2 : W'.frozen? ⟨gx, 2, none⟩ = false := frozen_of_block bx2 _
  have c4 : W'.cell? ⟨gx, 4, none⟩ = some (.int .i64 3) := by rw [cell_of_block bx2]; rfl
  have f4 : W'.frozen? ⟨gx, 4, none⟩ = false := frozen_of_block bx2 _
  have FS : Hid (∃ vp' ps', Sy ((W'.setCell ⟨gx, 2, none⟩ (.slice pb2 pn2 pc2)).setCell ⟨gx, 4, none⟩ (.int .i64 3)) B gx 3 vf vp' vk ps' { x with progs := x.progs ++ [[]] }) := ⟨_, _, hsx2.setDue 3⟩
  have KF : Hid (Keeps (SyOwn gx (.slice pb pn pc) ps) W ((W'.setCell ⟨gx, 2, none⟩ (.slice pb2 pn2 pc2)).setCell ⟨gx, 4, none⟩ (.int .i64 3))) := Keeps.setCell (S := SyOwn gx (.slice pb pn pc) ps) ((keeps_none k1).trans (hk2.mono (fun q _ e => e.elim (fun e => .inl e) (fun e => .inr (.inl e))))) (.inr (.inl rfl)) _
  clear hs1 b1 hsx hrun hbx hwk hsx2 hk2 bx2 k1 hB hpl
  go_wp2_with (at_builtin; refine wpList_append_run rfl _ _ 23 rfl rfl rfl HR.out ?_)
  go_ret
  exact ⟨rfl, FS.out, KF.out⟩
end Go.Proofs.YtppejcfghlpbjaaGreatDoor
