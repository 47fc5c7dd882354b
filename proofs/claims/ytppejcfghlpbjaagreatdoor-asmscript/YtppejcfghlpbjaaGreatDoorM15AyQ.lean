/-
  No statement of the seat is proved here. (Several texts in one: AyQ, AyR.)
-/
import Derived.Test.YtppejcfghlpbjaaGreatDoorM14AyB

/- Walks of strconv.ParseUint at 63 bits, and of number (package asm). No statement of the seat is proved here. -/
namespace Go.Proofs.YtppejcfghlpbjaaGreatDoor
open Go.RowKit Go.Shelf

/-- A step of reading digits. -/
theorem m63_step {a : Nat} {c : UInt8} {r : List UInt8} (h0 : 48 ≤ c.toNat) (h1 : c.toNat ≤ 57) (h2 : a < 1844674407370955162) (h3 : a * 10 + (c.toNat - 48) ≤ 9223372036854775807) : Lib.parseUintM 9223372036854775807 a (c :: r) = Lib.parseUintM 9223372036854775807 (a * 10 + (c.toNat - 48)) r := by
  rw [Lib.parseUintM, if_pos ⟨h0, h1⟩, if_neg (by omega), if_neg (by omega)]
theorem m63_far {a : Nat} {c : UInt8} {r : List UInt8} (h0 : 48 ≤ c.toNat) (h1 : c.toNat ≤ 57) (h2 : 9223372036854775807 < a * 10 + (c.toNat - 48)) : Lib.parseUintM 9223372036854775807 a (c :: r) = .range := by
  rw [Lib.parseUintM, if_pos ⟨h0, h1⟩]
  split <;> first | rfl | rw [if_pos h2]
theorem m63_no {a : Nat} {c : UInt8} {r : List UInt8} (h : ¬ (48 ≤ c.toNat ∧ c.toNat ≤ 57)) : Lib.parseUintM 9223372036854775807 a (c :: r) = .syntax := by
  rw [Lib.parseUintM, if_neg h]

set_option maxRecDepth 100000 in
set_option maxHeartbeats 32000000 in
theorem ipu63_any (t : List UInt8) (hne : t ≠ []) (hl : t.length ≤ 200000) (w : World) :
    Calls Tryz.prog 111 #[.string ⟨t.toArray⟩, .int .i64 10, .int .i64 63] w fun e w' => e = .returned (Lib.uintTupleM 184 9223372036854775807 (Lib.parseUintM 9223372036854775807 0 t)) ∧ Keeps (fun _ => False) w w' := by
  have hsz := size_of t
  have hem : t.isEmpty = false := by cases t; exact absurd rfl hne; rfl
  have hemp : (ByteArray.toList ⟨t.toArray⟩ == []) = false := by simpa using hne
  have hemp2 : (ByteArray.toList ⟨t.toArray⟩).isEmpty = false := by simpa using hem
  have hcv := Lib.run_convert_string_bytes (P := Tryz.prog) w 9 52 5 ⟨t.toArray⟩ (u := .string) Tryz.underlying9 Tryz.underlying52 Tryz.underlying5
  have kW : Keeps (fun _ => False) w (Lib.bytesWorld w 5 ⟨t.toArray⟩) := Keeps.of_below (Lib.bytesWorld_below _ _ _) _
  have hB : ∀ j (hj : j < t.length), (Lib.bytesWorld w 5 ⟨t.toArray⟩).cell? ⟨w.heap.size, j, none⟩ = some (.int .u8 (t[j]).toNat) := fun j hj => by
    have := Lib.bytesWorld_cell w 5 ⟨t.toArray⟩ j (by rw [hsz]; exact hj)
    rw [this]
    simp [List.getD, List.getElem?_eq_getElem hj]
  rw [hsz] at hcv
  generalize Lib.bytesWorld w 5 ⟨t.toArray⟩ = W1 at *
  have hmv : IntKind.u64.wrap (IntKind.u64.wrap 9223372036854775808 - 1) = 9223372036854775807 := by
    rw [IntKind.wrap_u64, IntKind.wrap_u64]
    decide
  clear hne
  go_enter Tryz.func111, Tryz.ntmps111
  go_wp2
  go_loop [12, 13, 101] (fun vu vn vi => ∃ (k acc : Nat) (a : Int), vu = .bool false ∧ vn = .int .u64 a ∧ vi = .int .i64 k ∧ k ≤ t.length ∧ Hid (a = (acc : Int) ∧ acc ≤ 9223372036854775807 ∧ Lib.parseUintM 9223372036854775807 0 t = Lib.parseUintM 9223372036854775807 acc (t.drop k)))
    (fun _ _ vi => t.length - (intOf vi).toNat)
  case atStart => exact ⟨0, 0, 0, rfl, rfl, rfl, by omega, rfl, by omega, rfl⟩
  case round =>
    obtain ⟨k, acc, a, rfl, rfl, rfl, hk, hh⟩ := hrel
    obtain ⟨ha, hacc, hdec⟩ := hh.out
    clear hh
    have a0 : 0 ≤ a := by omega
    have a1 : a ≤ 9223372036854775807 := by omega
    by_cases hkn : k < t.length
    · have hc := hB k hkn
      rw [List.drop_eq_getElem_cons hkn] at hdec
      generalize t[k] = c at hc hdec
      have hc256 : c.toNat < 256 := c.toNat_lt
      clear hB
      by_cases hdig : 48 ≤ c.toNat ∧ c.toNat ≤ 57
      · obtain ⟨hd0, hd1⟩ := hdig
        by_cases hov : 9223372036854775807 < acc * 10 + (c.toNat - 48)
        · rw [m63_far hd0 hd1 hov] at hdec
          by_cases hcut : 1844674407370955162 ≤ acc
          · have icut : 1844674407370955162 ≤ a := by omega
            clear hcut hacc hov ha
            go_wp2
            go_ret2
            exact ⟨rfl, kW⟩
          · have icut : a < 1844674407370955162 := by omega
            by_cases hwrp : 18446744073709551616 ≤ acc * 10 + (c.toNat - 48)
            · have iov : 18446744073709551616 ≤ a * 10 + ((c.toNat : Int) - 48) := by omega
              have hwr : IntKind.u64.wrap (a * 10 + ((c.toNat : Int) - 48)) = a * 10 + ((c.toNat : Int) - 48) - 18446744073709551616 := by
                rw [IntKind.wrap_u64]
                omega
              clear hcut hacc hov ha hwrp
              go_wp2
              go_ret2
              exact ⟨rfl, kW⟩
            · have iov : 9223372036854775807 < a * 10 + ((c.toNat : Int) - 48) := by omega
              have iov2 : a * 10 + ((c.toNat : Int) - 48) < 18446744073709551616 := by omega
              clear hcut hacc hov ha hwrp
              go_wp2
              go_ret2
              exact ⟨rfl, kW⟩
        · have HN : Hid (a * 10 + ((c.toNat : Int) - 48) = ((acc * 10 + (c.toNat - 48) : Nat) : Int) ∧ acc * 10 + (c.toNat - 48) ≤ 9223372036854775807 ∧ Lib.parseUintM 9223372036854775807 0 t = Lib.parseUintM 9223372036854775807 (acc * 10 + (c.toNat - 48)) (t.drop (k + 1))) := Lib.hid ⟨by omega, by omega, hdec.trans (m63_step hd0 hd1 (by omega) (by omega))⟩
          have icut : a < 1844674407370955162 := by omega
          have iov : a * 10 + ((c.toNat : Int) - 48) ≤ 9223372036854775807 := by omega
          clear hacc hov hdec ha
          go_wp2
          refine ⟨⟨k + 1, acc * 10 + (c.toNat - 48), a * 10 + ((c.toNat : Int) - 48), rfl, (by first | rfl | (congr 1; omega)), (by first | rfl | (congr 1; omega)), by omega, HN⟩, by simp [intOf]; omega⟩
      · rw [m63_no hdig] at hdec
        clear hacc ha
        have hv0 := bits_lo_u8 .or (c.toNat : Int) 32
        have hv1 := bits_hi_u8 .or (c.toNat : Int) 32
        have hu0 := bits_lo_u8 .or 95 32
        have hu1 := bits_hi_u8 .or 95 32
        have LW : ∀ (v : Int) (X : World), Calls Tryz.prog 127 #[.int .u8 v] X fun e w' => e = .returned (.int .u8 (bits .or .u8 v 32)) ∧ X = w' := fun v X => (AnyPu.internal_strconv_lower { layspu14 with } v X).mono (fun e w' q => ⟨q.1, q.2.symm⟩)
        go_wp2_with (refine (LW _ _).mono ?_; rintro e w' ⟨rfl, rfl⟩)
        all_goals go_ret2
        all_goals first | exact ⟨rfl, kW⟩ | exact ⟨by rw [hdec]; rfl, kW⟩
    · obtain rfl : k = t.length := by omega
      have hF : Lib.parseUintM 9223372036854775807 acc (t.drop t.length) = .ok acc := by rw [List.drop_length]; rfl
      rw [hF] at hdec
      subst ha
      clear hacc hF a0 a1
      go_wp2
      go_ret2
      exact ⟨rfl, kW⟩
end Go.Proofs.YtppejcfghlpbjaaGreatDoor


/- Walks of strconv.ParseUint at 63 bits as it is called, and of number (package asm). No statement of the seat is proved here. -/
namespace Go.Proofs.YtppejcfghlpbjaaGreatDoor
open Go.RowKit Go.Shelf

theorem ipu_empty (w : World) : Calls Tryz.prog 111 #[.string ⟨([] : List UInt8).toArray⟩, .int .i64 10, .int .i64 63] w fun e w' => e = .returned (.tuple #[.int .u64 0, .iface 184 (.int .i64 2)]) ∧ Keeps (fun _ => False) w w' :=
  (AnyPu.internal_strconv_ParseUint_empty { layspu14 with } 10 63 w).mono fun e w' ⟨he, hw⟩ => ⟨he, by rw [hw]; exact Keeps.refl _ _⟩
/-- The inner answer, by parR. -/
def IuPost (l : List UInt8) (e : Ending) : Prop := e = .returned (.tuple #[.int .u64 ((parR m63 l).1 : Int), if (parR m63 l).2 = true then .nilIface else .iface 184 (.int .i64 (if (parR m63 l).1 = 0 then 2 else 1))])
theorem iu_any (l : List UInt8) (hl : l.length ≤ 200000) (w : World) : Calls Tryz.prog 111 #[.string ⟨l.toArray⟩, .int .i64 10, .int .i64 63] w fun e w' => IuPost l e ∧ Keeps (fun _ => False) w w' := by
  unfold IuPost
  by_cases h : l = []
  · subst h
    exact (ipu_empty w).mono fun e w' ⟨he, hw⟩ => ⟨by rw [he]; rfl, hw⟩
  · refine (ipu63_any l h hl w).mono fun e w' ⟨he, hw⟩ => ⟨?_, hw⟩
    rw [he]
    unfold parR
    rw [if_neg h, show m63 = 9223372036854775807 from rfl]
    cases Lib.parseUintM 9223372036854775807 0 l with
    | ok u => rfl
    | «syntax» => rfl
    | range => rfl

set_option maxRecDepth 100000 in
set_option maxHeartbeats 4000000 in
theorem parse63_any (l : List UInt8) (hl : l.length ≤ 200000) (w : World) (hg : Gq w) : Calls Tryz.prog 90 #[.string ⟨l.toArray⟩, .int .i64 10, .int .i64 63] w fun ex w' => PuPost m63 l ex ∧ Keeps (fun _ => False) w w' := by
  have IU := iu_any l hl w
  unfold IuPost at IU
  have HT : Hid ((parR m63 l).2 = true → PuPost m63 l (.returned (.tuple #[.int .u64 ((parR m63 l).1 : Int), .nilIface]))) := fun q => ⟨_, rfl, .inl ⟨q, rfl⟩⟩
  have HF : Hid (∀ t p, (parR m63 l).2 = false → PuPost m63 l (.returned (.tuple #[.int .u64 ((parR m63 l).1 : Int), .iface t (.pointer (some p))]))) := fun t p q => ⟨_, rfl, .inr ⟨q, _, _, rfl⟩⟩
  have hsz := size_of l
  have HG : Hid (∀ X, Keeps (fun _ => False) w X → Gq X) := fun X k => hg.keeps k
  generalize parR m63 l = r at *
  obtain ⟨n, b⟩ := r
  dsimp only at *
  clear hg
  cases b with
  | true =>
    simp only [if_true] at IU
    have hR := HT.out rfl
    clear HT HF
    go_enter Tryz.func90, Tryz.ntmps90
    go_wp2_with fail
    refine IU.mono ?_
    rintro e w1 ⟨rfl, k1⟩
    clear IU HG
    go_wp2_with fail
    go_ret2
    exact ⟨hR, k1⟩
  | false =>
    simp only [Bool.false_eq_true, if_false] at IU
    have HR : Hid (∀ t p, PuPost m63 l (.returned (.tuple #[.int .u64 (n : Int), .iface t (.pointer (some p))]))) := fun t p => HF.out t p rfl
    clear HT HF
    by_cases hn : n = 0
    · rw [if_pos hn] at IU
      clear hn
      go_enter Tryz.func90, Tryz.ntmps90
      go_wp2_with fail
      refine IU.mono ?_
      rintro e w1 ⟨rfl, k1⟩
      obtain ⟨tp, p, hc⟩ := (HG.out w1 k1).esy
      have TE := AnyPu.strconv_toError_syntax { layspu14 with } ⟨#[80, 97, 114, 115, 101, 85, 105, 110, 116]⟩ ⟨l.toArray⟩ 10 63 (.iface tp p) w1 (by rw [hsz]; omega) hc (.inr ⟨tp, p, rfl⟩)
      clear IU HG hc
      go_wp2_with fail
      refine TE.mono ?_
      rintro e w2 ⟨N, rfl, _, _, h3⟩
      have k2 : Keeps (fun _ => False) w w2 := k1.trans (Keeps.of_below h3 _)
      clear TE h3 k1
      go_wp2_with fail
      go_ret2
      exact ⟨HR.out _ _, k2⟩
    · rw [if_neg hn] at IU
      clear hn
      go_enter Tryz.func90, Tryz.ntmps90
      go_wp2_with fail
      refine IU.mono ?_
      rintro e w1 ⟨rfl, k1⟩
      obtain ⟨tp, p, hc⟩ := (HG.out w1 k1).erg
      have TE := AnyPu.strconv_toError_range { layspu14 with } ⟨#[80, 97, 114, 115, 101, 85, 105, 110, 116]⟩ ⟨l.toArray⟩ 10 63 (.iface tp p) w1 (by rw [hsz]; omega) hc (.inr ⟨tp, p, rfl⟩)
      clear IU HG hc
      go_wp2_with fail
      refine TE.mono ?_
      rintro e w2 ⟨N, rfl, _, _, h3⟩
      have k2 : Keeps (fun _ => False) w w2 := k1.trans (Keeps.of_below h3 _)
      clear TE h3 k1
      go_wp2_with fail
      go_ret2
      exact ⟨HR.out _ _, k2⟩

/-- What number answers. -/
def N1Post (M : Nat) (l : List UInt8) (e : Ending) : Prop := match numM M l with
  | some n => e = .returned (.tuple #[.int .u64 (n : Int), .bool true])
  | none => ∃ n : Nat, e = .returned (.tuple #[.int .u64 (n : Int), .bool false]) ∧ n ≤ M
set_option maxRecDepth 100000 in
set_option maxHeartbeats 4000000 in
theorem num_any (M : Nat) (hM : M < 18446744073709551616) (bits : Int) (HPU : Hid (∀ (x : List UInt8) (X : World), x.length ≤ 200000 → Gq X → Calls Tryz.prog 90 #[.string ⟨x.toArray⟩, .int .i64 10, .int .i64 bits] X fun ex w' => PuPost M x ex ∧ Keeps (fun _ => False) X w')) (l : List UInt8) (hl : l.length ≤ 200000) (w : World) (hg : Gq w) :
    Calls Tryz.prog 67 #[.string ⟨l.toArray⟩, .int .i64 bits] w fun e w' => N1Post M l e ∧ Keeps (fun _ => False) w w' := by
  have PU := HPU.out l w hl hg
  unfold PuPost at PU
  have hle := parR_le M l
  have HNM : Hid (numM M l = if (parR M l).2 = true ∧ Lib.decDigits (parR M l).1 = l then some (parR M l).1 else none) := numM_parR M hM l
  have HG : Hid (∀ X, Keeps (fun _ => False) w X → Gp X) := fun X k => (hg.keeps k).gp
  generalize parR M l = r at *
  obtain ⟨n, b⟩ := r
  dsimp only at *
  have HB : Hid (numM M l = none → N1Post M l (.returned (.tuple #[.int .u64 (n : Int), .bool false]))) := fun q => by unfold N1Post; rw [q]; exact ⟨n, rfl, hle⟩
  have HO : Hid (numM M l = some n → N1Post M l (.returned (.tuple #[.int .u64 (n : Int), .bool true]))) := fun q => by unfold N1Post; rw [q]
  clear HPU hg
  cases b with
  | false =>
    have hR := HB.out (by rw [HNM.out, if_neg (by simp)])
    clear HB HO HNM HG hle
    go_enter Tryz.func67, Tryz.ntmps67
    go_wp2_with fail
    refine PU.mono ?_
    rintro e w1 ⟨⟨x, rfl, hx⟩, k1⟩
    rcases hx with ⟨h, _⟩ | ⟨_, t, p, rfl⟩
    · cases h
    clear PU
    go_wp2_with fail
    go_ret2
    exact ⟨hR, k1⟩
  | true =>
    have FM := fmt_any n (by omega)
    by_cases hd : Lib.decDigits n = l
    · have hR := HO.out (by rw [HNM.out, if_pos ⟨rfl, hd⟩])
      have hbe : (Lib.decDigits n == l) = true := by rw [hd]; simp
      generalize Lib.decDigits n = D at *
      clear HB HO HNM hle hd
      go_enter Tryz.func67, Tryz.ntmps67
      go_wp2_with fail
      refine PU.mono ?_
      rintro e w1 ⟨⟨x, rfl, hx⟩, k1⟩
      rcases hx with ⟨_, rfl⟩ | ⟨h, _⟩
      rotate_left
      · cases h
      have FM1 := FM w1 (HG.out w1 k1)
      clear PU FM HG
      go_wp2_with fail
      refine FM1.mono ?_
      rintro e w2 ⟨rfl, k2⟩
      have k3 := k1.trans k2
      clear FM1 k1 k2
      go_wp2_with fail
      go_ret2
      exact ⟨hR, k3⟩
    · have hR := HB.out (by rw [HNM.out, if_neg (fun q => hd q.2)])
      have hbe : (Lib.decDigits n == l) = false := by simpa using hd
      generalize Lib.decDigits n = D at *
      clear HB HO HNM hle hd
      go_enter Tryz.func67, Tryz.ntmps67
      go_wp2_with fail
      refine PU.mono ?_
      rintro e w1 ⟨⟨x, rfl, hx⟩, k1⟩
      rcases hx with ⟨_, rfl⟩ | ⟨h, _⟩
      rotate_left
      · cases h
      have FM1 := FM w1 (HG.out w1 k1)
      clear PU FM HG
      go_wp2_with fail
      refine FM1.mono ?_
      rintro e w2 ⟨rfl, k2⟩
      have k3 := k1.trans k2
      clear FM1 k1 k2
      go_wp2_with fail
      go_ret2
      exact ⟨hR, k3⟩
end Go.Proofs.YtppejcfghlpbjaaGreatDoor
