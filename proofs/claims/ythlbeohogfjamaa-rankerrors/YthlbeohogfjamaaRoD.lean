
/- do with a tx, over any step (layer 24). No statement of the seat is proved here. -/
import Derived.Test.YthlbeohogfjamaaRnD
import Derived.Test.YthlbeohogfjamaaRoM
namespace Go.Proofs.Ythlbeohogfjamaa
open Go.RowKit

def nO : Option (Int × Int) → Nat
  | none => 0
  | some p => reB p.1
def xO : Option (Int × Int) → Int
  | none => 0
  | some p => p.2
theorem rkV_eq (o : Option (Int × Int)) : rkV o = .agg #[.float .f64 (nO o), .int .u64 (xO o)] := by cases o <;> rfl
/-- A reply. -/
def rpR (R : Rt) (v : Value) (e : Int) : Value := .agg (rpA (nO R.1) (xO R.1) R.1.isSome R.2.1 v e)
theorem doX_wd {w : World} {b g c : Nat} {s : Wd} (kd on bits wd : Int) (h : WdAt w b g c s) : WdAt (doX w kd on bits wd) b g c s := h.kept (doX_at w kd on bits wd).2 (fun f => f) (fun f => f)
theorem doS_wd {w w1 w' : World} {b g c : Nat} {s s1 : Wd} (h0 : WdAt w b g c s) (h : WdAt w1 b g c s1) (k0 : Keeps (two b g) w w1) (k : Keeps (doS w) w1 w') : WdAt w' b g c s1 ∧ Keeps (two b g) w w' := by
  have l1 := h0.ltb
  have l2 := h0.ltg
  exact ⟨h.kept k (fun f => by unfold doS at f; omega) (fun f => by unfold doS at f; omega), k0.step k (fun i hi f => by unfold doS at f; omega)⟩
theorem do_at {w w1 : World} {b g c : Nat} {s : Wd} {kd on bits wd : Int} (h : WdAt w b g c s) (k : Keeps (two b g) (doX w kd on bits wd) w1) : DoAt w w1 kd on bits wd ∧ Keeps (two b g) w w1 := by
  have l1 := h.ltb
  have l2 := h.ltg
  refine ⟨(doX_at w kd on bits wd).1.kept k (fun i e => by rcases e with e | e <;> omega), ((doX_at w kd on bits wd).2.mono (fun _ _ f => f.elim)).trans k⟩
/-- What a call answers, and leaves. -/
def DoP (w : World) (b g c : Nat) (R : Rt) (e : Int) (s1 : Wd) (r : Ending) (w' : World) : Prop :=
  ∃ a n m, r = .returned (rpR R (.slice a n m) e) ∧ Er w' w.heap.size (.slice a n m) R.2.2 ∧ n = R.2.2.length ∧ WdAt w' b g c s1 ∧ Keeps (two b g) w w'
theorem mapR_eq {α β : Type} {g : α → β} {F : Wd → (α × Int) × Wd} {s s1 : Wd} {y : β} {e : Int} (h : mapR g F s = ((y, e), s1)) : ∃ x, F s = ((x, e), s1) ∧ g x = y := by
  unfold mapR at h
  simp only [Prod.mk.injEq] at h
  exact ⟨(F s).1.1, Prod.ext (Prod.ext rfl h.1.2) h.2, h.1.1⟩
set_option maxHeartbeats 1000000 in
theorem do_any {b g c : Nat} {s s1 : Wd} {r h o kd on bits wd e : Int} {R : Rt} (heq : Hid (callF r h o kd bits wd s = ((R, e), s1))) (hr : isW r) (hh : isW h) (ho : isW o) (hb : isW bits) (hw : isW wd) {w : World} (hd : WdAt w b g c s) :
    Calls Try.prog 11 #[.iface 24 (.pointer (some ⟨b, 0, none⟩)), .int .u64 r, .int .u64 h, .int .u64 o, stV kd on bits wd] w (DoP w b g c R e s1) := by
  replace heq := heq.out
  unfold callF at heq
  split at heq
  · rename_i hk
    subst hk
    obtain ⟨⟨⟩, h1, rfl⟩ := mapR_eq heq
    have hn : bits.toNat < 18446744073709551616 := by have := hb.2; omega
    refine (do_kind1 (fun e' w1 => e' = e ∧ WdAt w1 b g c s1 ∧ Keeps (two b g) w w1) (fun X hX => ?_)).mono ?_
    · have hdX : WdAt X b g c s := (doX_wd 1 on bits wd hd).kept ((Keeps.refl (fun _ => False) _).like hX.1 hX.2.1 hX.2.2.1 hX.2.2.2) (fun f => f) (fun f => f)
      refine (push_any (hid h1) hr hh hw hn hdX).mono ?_
      rintro r w1 ⟨rfl, h2, k2⟩
      have kx : Keeps (two b g) (doX w 1 on bits wd) w1 := ((Keeps.refl _ _).like hX.1 hX.2.1 hX.2.2.1 hX.2.2.2).trans k2
      exact ⟨e, rfl, ⟨rfl, h2, (do_at hd kx).2⟩, (do_at hd kx).1⟩
    · rintro r w' ⟨e', w1, rfl, ⟨rfl, h2, k2⟩, k3⟩
      exact ⟨none, 0, 0, rfl, Er.nil _ _, rfl, doS_wd hd h2 k2 k3⟩
  split at heq
  · rename_i hk
    subst hk
    obtain ⟨q, h1, rfl⟩ := mapR_eq heq
    refine (do_kind2 (fun n x hb e' w1 => (n = nO q ∧ x = xO q ∧ hb = q.isSome ∧ e' = e) ∧ WdAt w1 b g c s1 ∧ Keeps (two b g) w w1) ((pop_any (hid h1) hh (doX_wd 2 on bits wd hd)).mono ?_)).mono ?_
    · rintro r w1 ⟨rfl, h2, k2⟩
      exact ⟨nO q, xO q, q.isSome, e, by rw [rkV_eq], ⟨⟨rfl, rfl, rfl, rfl⟩, h2, (do_at hd k2).2⟩, (do_at hd k2).1⟩
    · rintro r w' ⟨n, x, hb, e', w1, rfl, ⟨⟨rfl, rfl, rfl, rfl⟩, h2, k2⟩, k3⟩
      exact ⟨none, 0, 0, rfl, Er.nil _ _, rfl, doS_wd hd h2 k2 k3⟩
  split at heq
  · rename_i hk
    subst hk
    obtain ⟨q, h1, rfl⟩ := mapR_eq heq
    refine (do_kind3 (fun n x hb e' w1 => (n = nO q ∧ x = xO q ∧ hb = q.isSome ∧ e' = e) ∧ WdAt w1 b g c s1 ∧ Keeps (two b g) w w1) ((first_any (hid h1) (doX_wd 3 on bits wd hd)).mono ?_)).mono ?_
    · rintro r w1 ⟨rfl, h2, k2⟩
      exact ⟨nO q, xO q, q.isSome, e, by rw [rkV_eq], ⟨⟨rfl, rfl, rfl, rfl⟩, h2, (do_at hd k2).2⟩, (do_at hd k2).1⟩
    · rintro r w' ⟨n, x, hb, e', w1, rfl, ⟨⟨rfl, rfl, rfl, rfl⟩, h2, k2⟩, k3⟩
      exact ⟨none, 0, 0, rfl, Er.nil _ _, rfl, doS_wd hd h2 k2 k3⟩
  split at heq
  · rename_i hk
    subst hk
    obtain ⟨q, h1, rfl⟩ := mapR_eq heq
    refine (do_kind4 (fun x e' w1 => (x = q ∧ e' = e) ∧ WdAt w1 b g c s1 ∧ Keeps (two b g) w w1) ((len_any (hid h1) (doX_wd 4 on bits wd hd)).mono ?_)).mono ?_
    · rintro r w1 ⟨rfl, h2, k2⟩
      exact ⟨q, e, rfl, ⟨⟨rfl, rfl⟩, h2, (do_at hd k2).2⟩, (do_at hd k2).1⟩
    · rintro r w' ⟨x, e', w1, rfl, ⟨⟨rfl, rfl⟩, h2, k2⟩, k3⟩
      exact ⟨none, 0, 0, rfl, Er.nil _ _, rfl, doS_wd hd h2 k2 k3⟩
  split at heq
  · rename_i hk
    subst hk
    obtain ⟨q, h1, rfl⟩ := mapR_eq heq
    have kX := (doX_at w 5 on bits wd).2
    have sX : (doX w 5 on bits wd).heap.size = w.heap.size + 3 := by unfold doX; simp
    refine (do_kind5 (fun la ln lc e' w1 => e' = e ∧ ln = q.length ∧ Er w1 (w.heap.size + 3) (.slice la ln lc) q ∧ WdAt w1 b g c s1 ∧ Keeps (two b g) w w1) ((all_any (hid h1) hh (doX_wd 5 on bits wd hd)).mono ?_)).mono ?_
    · rintro r w1 ⟨v, rfl, r2, h2, k2⟩
      obtain ⟨a, m, rfl⟩ := r2.form
      rw [sX] at r2
      exact ⟨a, q.length, m, e, rfl, ⟨rfl, rfl, r2, h2, (do_at hd k2).2⟩, (do_at hd k2).1⟩
    · rintro r w' ⟨la, ln, lc, e', w1, rfl, ⟨rfl, rfl, r2, h2, k2⟩, k3⟩
      refine ⟨la, _, lc, rfl, ?_, rfl, doS_wd hd h2 k2 k3⟩
      have r3 := r2.keeps k3 (fun i hi f => by have := (r2.block hi).1; unfold doS at f; omega)
      rcases id r3.2 with z | ⟨g', cap, cur, hv, z1, z2⟩
      · exact ⟨r3.1, .inl z⟩
      · exact ⟨r3.1, .inr ⟨g', cap, cur, hv, by omega, z2⟩⟩
  split at heq
  · rename_i hk
    subst hk
    obtain ⟨q, h1, rfl⟩ := mapR_eq heq
    refine (do_kind6 (fun x e' w1 => (x = q ∧ e' = e) ∧ WdAt w1 b g c s1 ∧ Keeps (two b g) w w1) ((clear_any (hid h1) hh (doX_wd 6 on bits wd hd)).mono ?_)).mono ?_
    · rintro r w1 ⟨rfl, h2, k2⟩
      exact ⟨q, e, rfl, ⟨⟨rfl, rfl⟩, h2, (do_at hd k2).2⟩, (do_at hd k2).1⟩
    · rintro r w' ⟨x, e', w1, rfl, ⟨⟨rfl, rfl⟩, h2, k2⟩, k3⟩
      exact ⟨none, 0, 0, rfl, Er.nil _ _, rfl, doS_wd hd h2 k2 k3⟩
  split at heq
  · rename_i hk
    subst hk
    obtain ⟨⟨⟩, h1, rfl⟩ := mapR_eq heq
    refine (do_kind7 (fun e' w1 => e' = e ∧ WdAt w1 b g c s1 ∧ Keeps (two b g) w w1) ((joinh_any (hid h1) hh ho (doX_wd 7 on bits wd hd)).mono ?_)).mono ?_
    · rintro r w1 ⟨rfl, h2, k2⟩
      exact ⟨e, rfl, ⟨rfl, h2, (do_at hd k2).2⟩, (do_at hd k2).1⟩
    · rintro r w' ⟨e', w1, rfl, ⟨rfl, h2, k2⟩, k3⟩
      exact ⟨none, 0, 0, rfl, Er.nil _ _, rfl, doS_wd hd h2 k2 k3⟩
  split at heq
  · rename_i hk
    subst hk
    obtain ⟨⟨⟩, h1, rfl⟩ := mapR_eq heq
    refine (do_kind8 (fun e' w1 => e' = e ∧ WdAt w1 b g c s1 ∧ Keeps (two b g) w w1) ((joinh_any (hid h1) hh hh (doX_wd 8 on bits wd hd)).mono ?_)).mono ?_
    · rintro r w1 ⟨rfl, h2, k2⟩
      exact ⟨e, rfl, ⟨rfl, h2, (do_at hd k2).2⟩, (do_at hd k2).1⟩
    · rintro r w' ⟨e', w1, rfl, ⟨rfl, h2, k2⟩, k3⟩
      exact ⟨none, 0, 0, rfl, Er.nil _ _, rfl, doS_wd hd h2 k2 k3⟩
  · have hk : kd < 1 ∨ 8 < kd := by omega
    unfold rtn at heq
    simp only [Prod.mk.injEq] at heq
    obtain ⟨⟨rfl, rfl⟩, rfl⟩ := heq
    refine (do_other hk).mono ?_
    rintro r w' ⟨rfl, k2⟩
    exact ⟨none, 0, 0, rfl, Er.nil _ _, rfl, hd.kept k2 (fun f => f) (fun f => f), k2.mono (fun _ _ f => f.elim)⟩
end Go.Proofs.Ythlbeohogfjamaa
