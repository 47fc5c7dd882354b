
/- The law's plays, any step (layer 22). No statement of the seat is proved here. -/
import Derived.Test.YtjgibkofenkehaaSlB1
import Derived.Test.YtjgibkofenkehaaSlB2
import Derived.Test.YtjgibkofenkehaaSlB3
import Derived.Test.YtjgibkofenkehaaSlB4
import Derived.Test.YtjgibkofenkehaaSlB5
import Derived.Test.YtjgibkofenkehaaSlB6
import Derived.Test.YtjgibkofenkehaaSlB7
import Derived.Test.YtjgibkofenkehaaSlB8
import Derived.Test.YtjgibkofenkehaaSlB9
import Derived.Test.YtjgibkofenkehaaSlB10
import Derived.Test.YtjgibkofenkehaaSlBz
import Derived.Test.YtjgibkofenkehaaSlD
namespace Go.Proofs.Ytjgibkofenkehaa
open Go.RowKit

theorem plays_any (k lv ro at_ x y : Int) (hok : St.Ok ⟨k, lv, ro, at_, x, y⟩) (b1 g1 c1 b2 g2 c2 : Nat) (s : Wd) (rms : Rm s 131300) (w : World) (h : Du w b1 g1 c1 b2 g2 c2 w s s) :
    Calls Try.prog 9 #[.pointer (some ⟨b1, 0, none⟩), .pointer (some ⟨b2, 0, none⟩), .agg #[.int .i64 k, .int .i64 lv, .int .u64 ro, .int .u64 at_, .int .u64 x, .int .u64 y]] w fun e w' => e = .returned (.bool true) ∧ ∃ s', Du w b1 g1 c1 b2 g2 c2 w' s' s' := by
  have key : ∀ {s' : Wd} {P : Prop}, Calls Try.prog 9 #[.pointer (some ⟨b1, 0, none⟩), .pointer (some ⟨b2, 0, none⟩), .agg #[.int .i64 k, .int .i64 lv, .int .u64 ro, .int .u64 at_, .int .u64 x, .int .u64 y]] w (fun e w' => e = .returned (.bool true) ∧ Du w b1 g1 c1 b2 g2 c2 w' s' s') → Calls Try.prog 9 #[.pointer (some ⟨b1, 0, none⟩), .pointer (some ⟨b2, 0, none⟩), .agg #[.int .i64 k, .int .i64 lv, .int .u64 ro, .int .u64 at_, .int .u64 x, .int .u64 y]] w (fun e w' => e = .returned (.bool true) ∧ ∃ s', Du w b1 g1 c1 b2 g2 c2 w' s' s') := fun q => q.mono (fun _ _ e => ⟨e.1, _, e.2⟩)
  by_cases h0 : k < 1 ∨ 10 < k
  · exact key (P := True) (plays_0 k h0 lv ro at_ x y hok b1 g1 c1 b2 g2 c2 s rms w h)
  · have hc : k = 1 ∨ k = 2 ∨ k = 3 ∨ k = 4 ∨ k = 5 ∨ k = 6 ∨ k = 7 ∨ k = 8 ∨ k = 9 ∨ k = 10 := by omega
    rcases hc with rfl | rfl | rfl | rfl | rfl | rfl | rfl | rfl | rfl | rfl
    · exact key (P := True) (plays_1 lv ro at_ x y hok b1 g1 c1 b2 g2 c2 s rms w h)
    · exact key (P := True) (plays_2 lv ro at_ x y hok b1 g1 c1 b2 g2 c2 s rms w h)
    · exact key (P := True) (plays_3 lv ro at_ x y hok b1 g1 c1 b2 g2 c2 s rms w h)
    · exact key (P := True) (plays_4 lv ro at_ x y hok b1 g1 c1 b2 g2 c2 s rms w h)
    · exact key (P := True) (plays_5 lv ro at_ x y hok b1 g1 c1 b2 g2 c2 s rms w h)
    · exact key (P := True) (plays_6 lv ro at_ x y hok b1 g1 c1 b2 g2 c2 s rms w h)
    · exact key (P := True) (plays_7 lv ro at_ x y hok b1 g1 c1 b2 g2 c2 s rms w h)
    · exact key (P := True) (plays_8 lv ro at_ x y hok b1 g1 c1 b2 g2 c2 s rms w h)
    · exact key (P := True) (plays_9 lv ro at_ x y hok b1 g1 c1 b2 g2 c2 s rms w h)
    · exact key (P := True) (plays_10 lv ro at_ x y hok b1 g1 c1 b2 g2 c2 s rms w h)
end Go.Proofs.Ytjgibkofenkehaa
