
/- The law's again: what was told is forgotten (layer 22). No statement of the seat is proved here. -/
import Derived.Test.YtjgibkofenkehaaSlB0
import Derived.Test.YtjgibkofenkehaaSkQM
namespace Go.Proofs.Ytjgibkofenkehaa
open Go.RowKit

def Wd.mute (s : Wd) : Wd := { s with L := [] }
theorem WdAt.mute {T : TypeId} {w : World} {b g c : Nat} {s : Wd} (h : WdAt T w b g c s) : Hs T w b g c (w.setCell ⟨b, 1, none⟩ (.slice none 0 0)) s.mute := by
  obtain ⟨v, q1, q2, q3⟩ := h.lg
  have hbox : (w.setCell ⟨b, 1, none⟩ (.slice none 0 0)).heap[b]? = some (.cells #[.slice (adr g c) s.W.length c, .slice none 0 0, .int .i64 s.g, .int .i64 s.c] T (0, 0)) := by
    rw [block_set q1 1 _]; rfl
  have kp : Keeps (own w b g) w (w.setCell ⟨b, 1, none⟩ (.slice none 0 0)) := (Keeps.refl _ w).setCell (p := ⟨b, 1, none⟩) (.inr (.inl rfl)) _
  refine ⟨⟨⟨_, hbox, ⟨rfl, .inl ⟨rfl, rfl⟩⟩, fun k hk => by simp [Value.ownBlock] at hk⟩, ?_, h.cap, h.ok⟩, ⟨kp.mono (fun i _ e => .inl e), fun i hi => .inl ?_⟩⟩
  · rcases h.row with h1 | ⟨h0, cur, h1, h2⟩
    · exact .inl h1
    · exact .inr ⟨h0, cur, (Below.heap_setCell _ _ _ _ (Ne.symm h0)).trans h1, h2⟩
  · rcases hi with e | e | ⟨x, v', y, z, t, fr, e1, e2⟩
    · exact .inl e
    · exact .inr (.inl e)
    · rw [hbox] at e1
      simp at e1
      obtain ⟨⟨_, rfl, _⟩, _⟩ := e1
      simp [Value.ownBlock] at e2
set_option maxRecDepth 100000 in
set_option maxHeartbeats 1000000 in
theorem again_any (b1 g1 c1 b2 g2 c2 : Nat) (s1 s2 : Wd) (w : World) (h : Du w b1 g1 c1 b2 g2 c2 w s1 s2) :
    Calls Try.prog 10 #[.pointer (some ⟨b1, 0, none⟩), .pointer (some ⟨b2, 0, none⟩)] w fun e w' => e = .returned (.tuple #[]) ∧ Du w b1 g1 c1 b2 g2 c2 w' s1.mute s2.mute := by
  have d1 := h.tx h.t.mute
  have d2 := d1.tp d1.r.mute
  obtain ⟨v1, q1, _⟩ := h.t.lg
  obtain ⟨v2, q2, _⟩ := d1.r.lg
  have f1 : w.frozen? ⟨b1, 1, none⟩ = false := frozen_of_block q1 1
  have e1 : w.cell? ⟨b1, 1, none⟩ = some v1 := by rw [cell_of_block q1]; rfl
  have f2 : (w.setCell ⟨b1, 1, none⟩ (.slice none 0 0)).frozen? ⟨b2, 1, none⟩ = false := frozen_of_block q2 1
  have e2 : (w.setCell ⟨b1, 1, none⟩ (.slice none 0 0)).cell? ⟨b2, 1, none⟩ = some v2 := by rw [cell_of_block q2]; rfl
  have HD := hid d2
  clear d1 d2 h q1 q2
  go_enter Try.func10, Try.ntmps10
  go_wp2_with fail
  first | refine bodyPost_ret (results_none rfl _ _ _) rfl ?_ | refine bodyPost_end (results_none rfl _ _ _) rfl ?_
  exact ⟨rfl, HD.out⟩
end Go.Proofs.Ytjgibkofenkehaa
