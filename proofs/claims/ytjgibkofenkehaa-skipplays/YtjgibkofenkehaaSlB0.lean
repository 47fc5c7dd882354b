
/- A step of the script: what it comes to (layer 22). No statement of the seat is proved here. -/
import Derived.Test.YtjgibkofenkehaaSlA
import Derived.Test.YtjgibkofenkehaaSkOpen
import Derived.Test.YtjgibkofenkehaaSkK
import Derived.Test.YtjgibkofenkehaaSkOb
import Derived.Test.YtjgibkofenkehaaSkLM
import Derived.Test.YtjgibkofenkehaaSrDM
import Derived.Test.YtjgibkofenkehaaSrG
import Derived.Test.YtjgibkofenkehaaSrAM
namespace Go.Proofs.Ytjgibkofenkehaa
open Go.RowKit

def stO (s : St) : Obj := .cells #[.int .i64 s.kd, .int .i64 s.lv, .int .u64 s.ro, .int .u64 s.at_, .int .u64 s.x, .int .u64 s.y] 34 (0, 0)
/-- What a step makes of the words and of what was told. -/
def pl (st : St) (s : Wd) : Wd :=
  if st.kd = 1 then (s.slay st.at_).2 else if st.kd = 2 then (s.snew st.ro).2 else if st.kd = 3 then (s.ins st.ro st.at_ st.x st.lv).2
  else if st.kd = 4 then (s.rem st.ro st.at_ st.x).2 else if st.kd = 5 then (s.has st.at_ st.x).2 else if st.kd = 6 then (s.first st.at_).2
  else if st.kd = 7 then (s.aft st.at_ st.x).2 else if st.kd = 8 then (s.keys st.at_).2 else if st.kd = 9 then (s.keys st.at_).2
  else if st.kd = 10 then (s.lay st.ro st.x st.y).2 else s
theorem pl1 (lv ro at_ x y : Int) (s : Wd) : pl ⟨1, lv, ro, at_, x, y⟩ s = (s.slay at_).2 := by
  unfold pl
  dsimp only
  rw [if_pos rfl]
theorem pl2 (lv ro at_ x y : Int) (s : Wd) : pl ⟨2, lv, ro, at_, x, y⟩ s = (s.snew ro).2 := by
  unfold pl
  dsimp only
  rw [if_neg (by omega), if_pos rfl]
theorem pl3 (lv ro at_ x y : Int) (s : Wd) : pl ⟨3, lv, ro, at_, x, y⟩ s = (s.ins ro at_ x lv).2 := by
  unfold pl
  dsimp only
  rw [if_neg (by omega), if_neg (by omega), if_pos rfl]
theorem pl4 (lv ro at_ x y : Int) (s : Wd) : pl ⟨4, lv, ro, at_, x, y⟩ s = (s.rem ro at_ x).2 := by
  unfold pl
  dsimp only
  rw [if_neg (by omega), if_neg (by omega), if_neg (by omega), if_pos rfl]
theorem pl5 (lv ro at_ x y : Int) (s : Wd) : pl ⟨5, lv, ro, at_, x, y⟩ s = (s.has at_ x).2 := by
  unfold pl
  dsimp only
  rw [if_neg (by omega), if_neg (by omega), if_neg (by omega), if_neg (by omega), if_pos rfl]
theorem pl6 (lv ro at_ x y : Int) (s : Wd) : pl ⟨6, lv, ro, at_, x, y⟩ s = (s.first at_).2 := by
  unfold pl
  dsimp only
  rw [if_neg (by omega), if_neg (by omega), if_neg (by omega), if_neg (by omega), if_neg (by omega), if_pos rfl]
theorem pl7 (lv ro at_ x y : Int) (s : Wd) : pl ⟨7, lv, ro, at_, x, y⟩ s = (s.aft at_ x).2 := by
  unfold pl
  dsimp only
  rw [if_neg (by omega), if_neg (by omega), if_neg (by omega), if_neg (by omega), if_neg (by omega), if_neg (by omega), if_pos rfl]
theorem pl8 (lv ro at_ x y : Int) (s : Wd) : pl ⟨8, lv, ro, at_, x, y⟩ s = (s.keys at_).2 := by
  unfold pl
  dsimp only
  rw [if_neg (by omega), if_neg (by omega), if_neg (by omega), if_neg (by omega), if_neg (by omega), if_neg (by omega), if_neg (by omega), if_pos rfl]
theorem pl9 (lv ro at_ x y : Int) (s : Wd) : pl ⟨9, lv, ro, at_, x, y⟩ s = (s.keys at_).2 := by
  unfold pl
  dsimp only
  rw [if_neg (by omega), if_neg (by omega), if_neg (by omega), if_neg (by omega), if_neg (by omega), if_neg (by omega), if_neg (by omega), if_neg (by omega), if_pos rfl]
theorem pl10 (lv ro at_ x y : Int) (s : Wd) : pl ⟨10, lv, ro, at_, x, y⟩ s = (s.lay ro x y).2 := by
  unfold pl
  dsimp only
  rw [if_neg (by omega), if_neg (by omega), if_neg (by omega), if_neg (by omega), if_neg (by omega), if_neg (by omega), if_neg (by omega), if_neg (by omega), if_neg (by omega), if_pos rfl]
theorem pl0 (k lv ro at_ x y : Int) (s : Wd) (h : k < 1 ∨ 10 < k) : pl ⟨k, lv, ro, at_, x, y⟩ s = s := by
  unfold pl
  dsimp only
  rw [if_neg (by omega), if_neg (by omega), if_neg (by omega), if_neg (by omega), if_neg (by omega), if_neg (by omega), if_neg (by omega), if_neg (by omega), if_neg (by omega), if_neg (by omega)]
theorem len_keys (s : Wd) (at_ : Int) : (s.len at_).2 = (s.keys at_).2 ∧ (s.len at_).1.2 = (s.keys at_).1.2 ∧ (s.len at_).1.1 = ((s.keys at_).1.1.length : Int) := by
  unfold Wd.len Wd.keys
  obtain ⟨⟨⟨out, e⟩, s1⟩, eq⟩ : ∃ r, s.each at_ = r := ⟨_, rfl⟩
  rw [eq]
  dsimp only
  split
  · exact ⟨rfl, rfl, rfl⟩
  · exact ⟨rfl, rfl, rfl⟩
section
variable {w X X' : World} {b1 g1 c1 b2 g2 c2 : Nat} {s : Wd}
/-- The step's block is new. -/
theorem st_new (h : Du w b1 g1 c1 b2 g2 c2 w s s) (st : St) : Du w b1 g1 c1 b2 g2 c2 (w.alloc (stO st)) s s ∧ L2 (w.alloc (stO st)) b1 g1 b2 g2 w.heap.size (stO st) := by
  have kn := keeps_new w (stO st)
  refine ⟨h.new kn, alloc_block w _, fun e => ?_, fun e => ?_⟩
  · have := h.t.lto ((own_kept h.t.ltb kn (fun _ _ f => f) _).1 e); omega
  · have := h.r.lto ((own_kept h.r.ltb kn (fun _ _ f => f) _).1 e); omega
theorem L2.tx {q : Nat} {o : Obj} {s1 s2 s' : Wd} (h : L2 X b1 g1 b2 g2 q o) (d : Du w b1 g1 c1 b2 g2 c2 X s1 s2) (k : Hs 27 X b1 g1 c1 X' s') : L2 X' b1 g1 b2 g2 q o := h.on ((Du.start d.t d.r d.dj).tx k)
theorem L2.tp {q : Nat} {o : Obj} {s1 s2 s' : Wd} (h : L2 X b1 g1 b2 g2 q o) (d : Du w b1 g1 c1 b2 g2 c2 X s1 s2) (k : Hs 30 X b2 g2 c2 X' s') : L2 X' b1 g1 b2 g2 q o := h.on ((Du.start d.t d.r d.dj).tp k)
end
theorem snew_len (s : Wd) (room : Int) : (s.snew room).2.L.length ≤ s.L.length + 12 := by
  unfold Wd.snew
  obtain ⟨⟨⟨x, e⟩, s1⟩, eq1⟩ : ∃ r, s.take room 8 = r := ⟨_, rfl⟩
  have q := take_len s room 8
  rw [eq1] at q ⊢
  have q' : s1.L.length ≤ s.L.length + 4 := q
  dsimp only
  split
  · show s1.L.length ≤ _; omega
  · obtain ⟨⟨f, s2⟩, eq2⟩ : ∃ r, s1.slay x = r := ⟨_, rfl⟩
    have q2 := slay_len x s1 8
    have eq2' : slay x 8 s1 = (f, s2) := eq2
    rw [eq2'] at q2
    rw [eq2]
    have q2' : s2.L.length ≤ s1.L.length + 8 := q2
    dsimp only
    split <;> (show s2.L.length ≤ _; omega)
end Go.Proofs.Ytjgibkofenkehaa
