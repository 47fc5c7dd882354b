
/- The law QueueRefused walked (layer 23). No statement of the seat is proved here. -/
import Derived.Test.YtadbplbifjeghaaQzC
import Derived.Test.YtadbplbifjeghaaQyA
import Derived.Test.YtadbplbifjeghaaQyB
import Derived.Test.YtadbplbifjeghaaQvD
namespace Go.Proofs.Ytadbplbifjeghaa
open Go.RowKit

theorem run_upto {t e : TypeId} {z : Value} {sz by_ : Nat} (hu : Try.prog.underlying t = some (.slice e)) (hin : (Try.prog.info? e).map (fun i => (i.zero, i.size, i.bytes)) = some (some z, sz, by_)) (W : World) (a : Option Addr) (n c m : Nat) (hm : m ≤ c) : (Instr.slice t (.slice a n c) none (some (.int .i64 m)) none).run Try.prog W = .ok (.slice a m c) W := by
  obtain ⟨i0, hi, hz0, hz1, hz2⟩ := info_parts hin
  have h2 : (m : Int) ≤ c := by omega
  have h3 : (if c = 0 then a else a.map (·.add (0 * sz))) = a := by
    split
    · rfl
    · cases a with
      | none => rfl
      | some a => simp [Addr.add]
  simp [Instr.slice, run_underlying hu, Instr.sliceBounds, run_sliceBound, sizeOf, typeInfo, hi, h2]
  simpa using h3
theorem Lies.cut {w : World} {a : Option Addr} {c : Nat} {W : List Int} (h : Lies w (.slice a W.length c) W) (m : Nat) (hm : m ≤ W.length) : Lies w (.slice a (W.take m).length c) (W.take m) := by
  obtain ⟨a', c', e, hc⟩ := h
  obtain ⟨rfl, _, rfl⟩ := Value.slice.inj e
  refine ⟨a, c, rfl, fun i hi => ?_⟩
  have hi' : i < m := by rw [List.length_take] at hi; omega
  obtain ⟨g, off, e1, e2⟩ := hc i (by omega)
  refine ⟨g, off, e1, ?_⟩
  rw [e2]
  unfold oat
  rw [List.getElem?_take_of_lt hi']
theorem cyc (x m : Int) (hm : 0 < m) (h : m ≤ 1000) : ∃ L : Nat, (L : Int) < m ∧ (wrap64 (x.tmod m + m)).tmod m = L := by
  have a1 := Int.tmod_lt_of_pos x hm
  have a2 : -m < x.tmod m := Int.lt_tmod_of_pos x hm
  have e : wrap64 (x.tmod m + m) = x.tmod m + m := iw_id' (by omega) (by omega)
  have p := Int.tmod_nonneg m (a := x.tmod m + m) (by omega)
  have q := Int.tmod_lt_of_pos (x.tmod m + m) hm
  exact ⟨((x.tmod m + m).tmod m).toNat, by omega, by rw [e]; omega⟩
section
variable {w0 w1 w : World} {x t b g c b2 g2 c2 : Nat} {lv : Value} {E : List Qe} {s r : Wd}
/-- What was new since one world was new since an earlier one. -/
theorem Wo.base (h : Wo w1 w x t b g c b2 g2 c2 lv E s r) (k : Keeps (fun _ => False) w0 w1) : Wo w0 w x t b g c b2 g2 c2 lv E s r :=
  ⟨h.bx, h.tw, h.rw, h.row, h.es, h.nd, fun i hi => Nat.le_trans k.size (h.lo i hi), k.trans h.kp⟩
/-- A world of the law that is laid. -/
theorem Wo.start {wa wb : World} (h1 : WdAt wa b g c s) (k1 : Keeps (fun _ => False) w0 wa) (hb : w0.heap.size ≤ b) (hg : w0.heap.size ≤ g) (h2 : WdAt wb b2 g2 c2 r) (k2 : Keeps (fun _ => False) (wa.alloc (.cells #[.pointer (some ⟨b, 0, none⟩)] 28)) wb) (hb2 : wa.heap.size + 1 ≤ b2) (hg2 : wa.heap.size + 1 ≤ g2) :
    Wo w0 (wb.alloc (.cells #[.pointer (some ⟨wa.heap.size, 0, none⟩), .pointer (some ⟨b2, 0, none⟩), .slice none 0 0] 31)) wb.heap.size wa.heap.size b g c b2 g2 c2 (.slice none 0 0) [] s r := by
  have ht := tw_made (w := wa) rfl h1
  have ht2 := ht.kept k2 (fun f => f) (fun f => f) (fun f => f)
  have lb := h1.ltb
  have lg := h1.ltg
  have lb2 := h2.ltb
  have lg2 := h2.ltg
  have nbg := ht.wd.ne
  have k3 := (Keeps.refl (fun _ => False) wb).alloc (.cells #[.pointer (some ⟨wa.heap.size, 0, none⟩), .pointer (some ⟨b2, 0, none⟩), .slice none 0 0] 31)
  refine ⟨alloc_block wb _, ht2.kept k3 (fun f => f) (fun f => f) (fun f => f), h2.kept k3 (fun f => f) (fun f => f), Pw.nil _, fun e he => by simp at he, ?_, ?_, (((k1.alloc _).trans k2).trans k3)⟩
  · refine of_six ⟨?_, fun k hk => by simp [Value.ownBlock] at hk, fun e he => by simp at he, List.nodup_nil⟩
    have := h2.ne
    have := k2.size
    simp at this
    simp
    omega
  · intro i hi
    have := k1.size
    have := k2.size
    simp at this
    rcases ftp_cases hi with rfl | rfl | rfl | rfl | rfl | rfl | q | ⟨e, he, q⟩ <;> first | omega | skip
    · simp [Value.ownBlock] at q
    · simp at he
theorem Wo.calls (h : Wo w0 w x t b g c b2 g2 c2 lv E s r) (n : Int) : Wo w0 (w.setCell ⟨b, 3, none⟩ (.int .i64 n)) x t b g c b2 g2 c2 lv E { s with n := n } r :=
  h.tx ((Keeps.refl _ w).setCell (p := ⟨b, 3, none⟩) (.inr (.inl rfl)) _) (h.tw.on ((Keeps.refl _ w).setCell (p := ⟨b, 3, none⟩) (.inr (.inl rfl)) _) (h.tw.wd.calls n))
theorem Wo.left (h : Wo w0 w x t b g c b2 g2 c2 lv E s r) (n : Int) : Wo w0 (w.setCell ⟨b, 1, none⟩ (.int .i64 n)) x t b g c b2 g2 c2 lv E { s with l := n } r :=
  h.tx ((Keeps.refl _ w).setCell (p := ⟨b, 1, none⟩) (.inr (.inl rfl)) _) (h.tw.on ((Keeps.refl _ w).setCell (p := ⟨b, 1, none⟩) (.inr (.inl rfl)) _) (h.tw.wd.left n))
theorem Wo.code (h : Wo w0 w x t b g c b2 g2 c2 lv E s r) (n : Int) : Wo w0 (w.setCell ⟨b, 2, none⟩ (.int .i64 n)) x t b g c b2 g2 c2 lv E { s with c := n } r :=
  h.tx ((Keeps.refl _ w).setCell (p := ⟨b, 2, none⟩) (.inr (.inl rfl)) _) (h.tw.on ((Keeps.refl _ w).setCell (p := ⟨b, 2, none⟩) (.inr (.inl rfl)) _) (h.tw.wd.code n))
end
end Go.Proofs.Ytadbplbifjeghaa
