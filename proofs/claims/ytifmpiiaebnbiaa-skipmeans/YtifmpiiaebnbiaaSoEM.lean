/-
  No statement of the seat is proved here. (Several texts in one: SoD8, SoF, SoE0, SoE1, SoE.)
-/
import Derived.Test.YtifmpiiaebnbiaaSoD3
import Derived.Test.YtifmpiiaebnbiaaSoD4
import Derived.Test.YtifmpiiaebnbiaaSoD5
import Derived.Test.YtifmpiiaebnbiaaSoD6
import Derived.Test.YtifmpiiaebnbiaaSoD7
import Derived.Test.YtifmpiiaebnbiaaSoD0
import Derived.Test.YtifmpiiaebnbiaaSkOpen

/- The law's means, any kind (layer 22). No statement of the seat is proved here. -/
namespace Go.Proofs.Ytifmpiiaebnbiaa
open Go.RowKit

theorem means_any {w : World} {b1 g1 c1 b2 g2 c2 : Nat} {s1 s2 : Wd} {N1 N2 : List Sn} {m : Nat} {K : List Int} {a : Option Addr} {c : Nat} (h : Me w b1 g1 c1 b2 g2 c2 w s1 s2 N1 N2 m K) (hs : s1.L = []) (hs2 : s2.L = []) (hv : Sv w b1 g1 b2 g2 (.slice a K.length c) K) (hm : m ≤ 150) (hK : K.length ≤ 150) (kd lv ro at_ x y other : Int) (hx : isW x) :
    Calls Try.prog 11 #[.pointer (some ⟨b1, 0, none⟩), .pointer (some ⟨b2, 0, none⟩), .slice a K.length c, .agg #[.int .i64 kd, .int .i64 lv, .int .u64 ro, .int .u64 at_, .int .u64 x, .int .u64 y], .int .i64 other] w fun e w' => e = .returned (.bool true) ∧ ∃ s1' s2' N1' N2', Me w b1 g1 c1 b2 g2 c2 w' s1' s2' N1' N2' (m + 1) (nxK kd K x) := by
  by_cases h3 : kd = 3
  · exact means_3 h hs hs2 hv hm hK kd lv ro at_ x y other hx h3
  by_cases h4 : kd = 4
  · exact means_4 h hs hs2 hv hm hK kd lv ro at_ x y other hx h4
  by_cases h5 : kd = 5
  · exact means_5 h hs hs2 hv hm hK kd lv ro at_ x y other hx h5
  by_cases h6 : kd = 6
  · exact means_6 h hs hs2 hv hm hK kd lv ro at_ x y other hx h6
  by_cases h7 : kd = 7
  · exact means_7 h hs hs2 hv hm hK kd lv ro at_ x y other hx h7
  exact means_0 h hs hs2 hv hm hK kd lv ro at_ x y other hx ⟨h3, h4, h5, h6, h7⟩
end Go.Proofs.Ytifmpiiaebnbiaa


/- A row of ints that came in (layer 22). No statement of the seat is proved here. -/
namespace Go.Proofs.Ytifmpiiaebnbiaa
open Go.ChangeShapes Go.WideShapes Go.ChangeAt Go.RowKit

/-- A row of ints, wherever it lies. -/
def IntsAt (w : World) (a : Option Addr) (n : Nat) : Prop := ∀ k, k < n → ∃ g off, a = some ⟨g, off, none⟩ ∧ ∃ z : Int, -9223372036854775808 ≤ z ∧ z < 9223372036854775808 ∧ w.cell? ⟨g, off + k, none⟩ = some (.int .i64 z)
theorem IntsAt.keeps {w w' : World} {a : Option Addr} {n : Nat} (h : IntsAt w a n) (k : Keeps (fun _ => False) w w') : IntsAt w' a n := fun i hi => by
  obtain ⟨g, off, ea, z, z1, z2, e⟩ := h i hi
  exact ⟨g, off, ea, z, z1, z2, (World.cell?_of_block (k.block g (World.block_lt_of_cell? _ _ e) (fun f => f))).trans e⟩
theorem wf_i64 {n : Int} (h : (Lit.int .i64 n).wf = true) : -9223372036854775808 ≤ n ∧ n < 9223372036854775808 := by
  have h : -9223372036854775808 ≤ n ∧ n ≤ 9223372036854775807 := by simpa [Lit.wf, IntKind.min, IntKind.max, IntKind.signed, IntKind.bits] using h
  exact ⟨h.1, by omega⟩

section
variable {H : Type} {enc : TypeId × Value → H} {W : World}
theorem bytesInt : Try.prog.bytesOf 3 = 8 := by kernel_rfl
set_option maxRecDepth 100000 in
/-- A slice of ints that came in. -/
theorem open_levels {v : Value} {d : DataW H} {ps : List MemPlace} {base : Nat} (hok : Value.okWide Try.prog W .any base 38 v) (h : DataW.Trod enc Try.prog W 0 (fun _ => true) true 38 v d ps) (hwt : ∀ N ∈ d.weights Try.prog 38, N ≤ reachBytes) :
    ∃ a n c, v = .slice a n c ∧ IntsAt W a n ∧ n * 8 ≤ 140737488351232 := by
  obtain ⟨a, len, cap, rfl⟩ := okWide_slice Try.underlying38 hok
  obtain ⟨fuel, hf⟩ := h
  rcases open_ints Try.underlying38 Try.underlying3 cellsInt hf with ⟨hcs, hx⟩ | ⟨x, l, c, zs, hcs, _, hl, hm, hz, hx, hcell, hwz⟩
  · simp [Value.cells] at hcs
    obtain ⟨rfl, rfl, rfl⟩ := hcs
    exact ⟨none, 0, 0, rfl, fun i h => absurd h (by simp), by simp⟩
  · simp [Value.cells] at hcs
    obtain ⟨rfl, rfl, rfl⟩ := hcs
    simp at hz
    have hb : len * 8 ≤ 140737488351232 := by
      rw [(Prod.mk.inj hx).1] at hwt
      have := hwt _ (by
        simp only [DataW.weights, Try.underlying38]
        exact List.mem_cons_self)
      rw [bytesInt] at this
      simp only [reachBytes, lits, List.length_map, List.length_take, List.length_drop] at this
      omega
    refine ⟨some x, len, cap, rfl, fun i hi => ?_, hb⟩
    obtain ⟨b, o, s⟩ := x
    have hc := hcell i (by omega)
    have hs : s = none := by
      have := cell_spot (hcell 0 (by omega))
      simpa [Addr.add] using this
    subst hs
    rw [addr_add] at hc
    have hw := wf_i64 (hwz (zs.getD i 0) (by rw [List.getD_eq_getElem?_getD, List.getElem?_eq_getElem (by omega)]; simp))
    exact ⟨b, o, rfl, _, hw.1, hw.2, hc⟩
end
end Go.Proofs.Ytifmpiiaebnbiaa


/- How the law SkipMeans begins: two txs made beside each other (layer 22). No statement of the seat is proved here. -/
namespace Go.Proofs.Ytifmpiiaebnbiaa
open Go.RowKit

def bm (w : World) : World := (w.alloc (.cells (madeCells #[.int .u64 0] 2000) 32)).alloc (.cells #[.slice (some ⟨w.heap.size, 0, none⟩) 2000 2000, .slice none 0 0, .int .i64 0, .int .i64 0] 27 (0, 0))
theorem bm2 (w : World) : bm (bm w) = (((w.alloc (.cells (madeCells #[.int .u64 0] 2000) 32)).alloc (.cells #[.slice (some ⟨w.heap.size, 0, none⟩) 2000 2000, .slice none 0 0, .int .i64 0, .int .i64 0] 27 (0, 0))).alloc (.cells (madeCells #[.int .u64 0] 2000) 32)).alloc (.cells #[.slice (some ⟨w.heap.size + 1 + 1, 0, none⟩) 2000 2000, .slice none 0 0, .int .i64 0, .int .i64 0] 27 (0, 0)) := by
  have e1 : (bm w).heap.size = w.heap.size + 1 + 1 := by unfold bm; simp
  show (((bm w).alloc (.cells (madeCells #[.int .u64 0] 2000) 32)).alloc (.cells #[.slice (some ⟨(bm w).heap.size, 0, none⟩) 2000 2000, .slice none 0 0, .int .i64 0, .int .i64 0] 27 (0, 0))) = _
  rw [e1]
  rfl
theorem bm_own (w : World) : ∀ i, own (bm w) (w.heap.size + 1) w.heap.size i → w.heap.size ≤ i := by
  intro i hi
  rcases hi with e | e | ⟨x, v, y, z, t, fr, e1, e2⟩
  · omega
  · omega
  · have b1 := alloc_block (w.alloc (.cells (madeCells #[.int .u64 0] 2000) 32)) (.cells #[.slice (some ⟨w.heap.size, 0, none⟩) 2000 2000, .slice none 0 0, .int .i64 0, .int .i64 0] 27 (0, 0))
    rw [show (w.alloc (.cells (madeCells #[.int .u64 0] 2000) 32)).heap.size = w.heap.size + 1 by simp] at b1
    unfold bm at e1
    rw [b1] at e1
    simp at e1
    obtain ⟨⟨_, rfl, _⟩, _⟩ := e1
    simp [Value.ownBlock] at e2
theorem means_start (w : World) : Dt (bm (bm w)) (w.heap.size + 1) w.heap.size 2000 (w.heap.size + 1 + 1 + 1) (w.heap.size + 1 + 1) 2000 (bm (bm w)) S0 S0 ∧ ∀ X s1 s2, Dt (bm (bm w)) (w.heap.size + 1) w.heap.size 2000 (w.heap.size + 1 + 1 + 1) (w.heap.size + 1 + 1) 2000 X s1 s2 → Keeps (fun _ => False) w X := by
  have e1 : (bm w).heap.size = w.heap.size + 2 := by unfold bm; simp
  have t1 : WdAt 27 (bm w) (w.heap.size + 1) w.heap.size 2000 S0 := wd_made _ w 2000 (by omega) (by omega) 0 0
  have t2 : WdAt 27 (bm (bm w)) ((bm w).heap.size + 1) (bm w).heap.size 2000 S0 := wd_made _ (bm w) 2000 (by omega) (by omega) 0 0
  have o1 : ∀ i, own (bm w) (w.heap.size + 1) w.heap.size i → w.heap.size ≤ i := bm_own w
  have o2 : ∀ i, own (bm (bm w)) ((bm w).heap.size + 1) (bm w).heap.size i → (bm w).heap.size ≤ i := bm_own (bm w)
  have kA : Keeps (fun _ => False) w (bm w) := (keeps_new w _).alloc _
  have kB : Keeps (fun _ => False) (bm w) (bm (bm w)) := (keeps_new (bm w) _).alloc _
  have ho1 := own_kept (g := w.heap.size) t1.ltb kB (fun _ _ f => f)
  rw [e1] at t2 o2
  refine ⟨Dt.start (t1.kept kB (fun _ _ f => f)) t2 (fun i q1 q2 => ?_), fun X s1 s2 d => (kA.trans kB).step d.k (fun i hi e => ?_)⟩
  · have p1 := t1.lto ((ho1 i).1 q1)
    have p2 := o2 i q2
    omega
  · rcases e with e | e
    · have := o1 i ((ho1 i).1 e); omega
    · have := o2 i e; omega
theorem mute_w (s : Wd) : s.mute.W = s.W ∧ s.mute.c = s.c := ⟨rfl, rfl⟩
theorem s2_c : S2.c = 0 := by kernel_rfl
theorem s0_s2 : S2.mute.W = S2.W ∧ S2.mute.c = 0 := ⟨(mute_w S2).1, (mute_w S2).2.trans s2_c⟩
/-- Behind both lays, with the logs let go: the law's means may begin. -/
theorem Me.start {w X : World} {b1 g1 c1 b2 g2 c2 : Nat} (d : Dt w b1 g1 c1 b2 g2 c2 X S2.mute S2.mute) : Me w b1 g1 c1 b2 g2 c2 X S2.mute S2.mute [] [] 0 [] :=
  ⟨d, s2_start _ s0_s2.1 s0_s2.2, s2_start _ s0_s2.1 s0_s2.2, rfl, rfl, Nat.zero_le _, Nat.zero_le _⟩
/-- The logs let go between two rounds. -/
theorem Ss.muted {s : Wd} {N : List Sn} {m : Nat} (h : Ss s N m) : Ss s.mute N m := ⟨h.c, h.ok, h.sl, h.rm.imp fun _ r => r.same (mute_w s).1, h.nb⟩
theorem Me.muted {w X X' : World} {b1 g1 c1 b2 g2 c2 : Nat} {s1 s2 : Wd} {N1 N2 : List Sn} {m : Nat} {K : List Int} (h : Me w b1 g1 c1 b2 g2 c2 X s1 s2 N1 N2 m K) (d : Dt w b1 g1 c1 b2 g2 c2 X' s1.mute s2.mute) : Me w b1 g1 c1 b2 g2 c2 X' s1.mute s2.mute N1 N2 m K :=
  ⟨d, h.h1.muted, h.h2.muted, h.k1, h.k2, Nat.zero_le _, Nat.zero_le _⟩
/-- Both logs let go. -/
theorem Dt.mutes {w X : World} {b1 g1 c1 b2 g2 c2 : Nat} {s1 s2 : Wd} (h : Dt w b1 g1 c1 b2 g2 c2 X s1 s2) : ∃ v1 v2, X.frozen? ⟨b1, 1, none⟩ = false ∧ X.cell? ⟨b1, 1, none⟩ = some v1 ∧ (X.setCell ⟨b1, 1, none⟩ (.slice none 0 0)).frozen? ⟨b2, 1, none⟩ = false ∧ (X.setCell ⟨b1, 1, none⟩ (.slice none 0 0)).cell? ⟨b2, 1, none⟩ = some v2 ∧ Dt w b1 g1 c1 b2 g2 c2 ((X.setCell ⟨b1, 1, none⟩ (.slice none 0 0)).setCell ⟨b2, 1, none⟩ (.slice none 0 0)) s1.mute s2.mute := by
  have d1 := h.tx h.t.mute
  have d2 := d1.tp d1.r.mute
  obtain ⟨v1, q1, _⟩ := h.t.lg
  obtain ⟨v2, q2, _⟩ := d1.r.lg
  exact ⟨v1, v2, frozen_of_block q1 1, by rw [cell_of_block q1]; rfl, frozen_of_block q2 1, by rw [cell_of_block q2]; rfl, d2⟩
theorem StepsAt.kept {w w' : World} {a : Option Addr} {n : Nat} (h : StepsAt w a n) (k : Keeps (fun _ => False) w w') : StepsAt w' a n := fun i hi => by
  obtain ⟨g, off, e, s, hs, hc⟩ := h i hi
  exact ⟨g, off, e, s, hs, fun j v hj => (World.cell?_of_block (k.block g (World.block_lt_of_cell? _ _ (hc j v hj)) (fun f => f))).trans (hc j v hj)⟩
theorem rmS0 : Rm S0 18 := of_decide_eq_true (p := S0.L.length + 18 ≤ 1000000) (by kernel_rfl)
theorem rmS1 : Rm S1 8 := of_decide_eq_true (p := S1.L.length + 8 ≤ 1000000) (by kernel_rfl)
theorem rlay_0 (b g c : Nat) (w : World) (h : WdAt 27 w b g c S0) :
    Calls Try.prog 9 #[.iface 23 (.pointer (some ⟨b, 0, none⟩)), .int .u64 0, .int .u64 40, .int .u64 2000] w fun e w' => e = .returned (.int .i64 0) ∧ Hs 27 w b g c w' S1 := by
  have q := lay_any b g c S0 0 40 2000 zero_isW (lit_isW 40 (by omega)) (lit_isW 2000 (by omega)) rmS0 w h
  rw [s1_e] at q
  exact q
theorem slay_1 (b g c : Nat) (w : World) (h : WdAt 27 w b g c S1) :
    Calls Try.prog 10 #[.iface 23 (.pointer (some ⟨b, 0, none⟩)), .int .u64 20] w fun e w' => e = .returned (.int .i64 0) ∧ Hs 27 w b g c w' S2 := by
  have q := slay_any b g c S1 20 rmS1 w h
  rw [s2_e] at q
  exact q
/-- The set's new row. -/
theorem Sv.newR {w w' : World} {b1 g1 c1 b2 g2 c2 : Nat} {s1 s2 : Wd} {a : Option Addr} {c : Nat} {L R : List Int} {v : Value} (h : Sv w b1 g1 b2 g2 (.slice a L.length c) L) (ht : WdAt 27 w b1 g1 c1 s1) (hr : WdAt 27 w b2 g2 c2 s2) (hn : NewR w w' a L v R) : Sv w' b1 g1 b2 g2 v R := by
  obtain ⟨a', c', rfl, hc, hl, k, q⟩ := hn
  rcases q with ⟨rfl, rfl⟩ | q
  · refine ⟨hl, ⟨_, _, rfl, hc⟩, fun x m d e hp => ?_⟩
    injection e with e1 e2 e3
    subst e1
    have r := h.ap x _ c rfl hp
    exact ⟨fun f => r.1 ((own_kept ht.ltb k (fun _ _ f => f) _).1 f), fun f => r.2 ((own_kept hr.ltb k (fun _ _ f => f) _).1 f)⟩
  · exact Sv.new hl ⟨_, _, rfl, hc⟩ ht hr k (fun x m d e _ => by
      injection e with e1 e2 e3
      exact q x e1)
theorem Me.base {w X : World} {b1 g1 c1 b2 g2 c2 : Nat} {s1 s2 : Wd} {N1 N2 : List Sn} {m : Nat} {K : List Int} (h : Me w b1 g1 c1 b2 g2 c2 X s1 s2 N1 N2 m K) : Me X b1 g1 c1 b2 g2 c2 X s1 s2 N1 N2 m K := ⟨Dt.start h.d.t h.d.r h.d.dj, h.h1, h.h2, h.k1, h.k2, h.l1, h.l2⟩
theorem Me.over {w X X' : World} {b1 g1 c1 b2 g2 c2 : Nat} {s1 s2 s3 s4 : Wd} {N3 N4 : List Sn} {m' : Nat} {K' : List Int} (h : Dt w b1 g1 c1 b2 g2 c2 X s1 s2) (k : Me X b1 g1 c1 b2 g2 c2 X' s3 s4 N3 N4 m' K') : Me w b1 g1 c1 b2 g2 c2 X' s3 s4 N3 N4 m' K' := ⟨h.trans k.d, k.h1, k.h2, k.k1, k.k2, k.l1, k.l2⟩
theorem Me.new {w X X' : World} {b1 g1 c1 b2 g2 c2 : Nat} {s1 s2 : Wd} {N1 N2 : List Sn} {m : Nat} {K : List Int} (h : Me w b1 g1 c1 b2 g2 c2 X s1 s2 N1 N2 m K) (k : Keeps (fun _ => False) X X') : Me w b1 g1 c1 b2 g2 c2 X' s1 s2 N1 N2 m K := ⟨h.d.new k, h.h1, h.h2, h.k1, h.k2, h.l1, h.l2⟩
/-- The step's own block lies as it lay behind the means. -/
theorem Me.step_on {X X' : World} {b1 g1 c1 b2 g2 c2 : Nat} {s1 s2 s3 s4 : Wd} {N3 N4 : List Sn} {m' : Nat} {K' : List Int} {o : Obj} (t : WdAt 27 X b1 g1 c1 s1) (r : WdAt 27 X b2 g2 c2 s2) (k : Me (X.alloc o) b1 g1 c1 b2 g2 c2 X' s3 s4 N3 N4 m' K') : X'.heap[X.heap.size]? = some o := by
  have n1 : ¬ own (X.alloc o) b1 g1 X.heap.size := fun q => by have := t.lto ((own_kept t.ltb (keeps_new X _) (fun _ _ f => f) _).1 q); omega
  have n2 : ¬ own (X.alloc o) b2 g2 X.heap.size := fun q => by have := r.lto ((own_kept r.ltb (keeps_new X _) (fun _ _ f => f) _).1 q); omega
  exact (k.d.k.block _ (by simp) (fun e => e.elim n1 n2)).trans (alloc_block X o)
end Go.Proofs.Ytifmpiiaebnbiaa


/- How the law SkipMeans ends: the keys of both, and the length (layer 22). No statement of the seat is proved here. -/
namespace Go.Proofs.Ytifmpiiaebnbiaa
open Go.RowKit

section
variable {w X : World} {b1 g1 c1 b2 g2 c2 : Nat} {s1 s2 : Wd} {N1 N2 : List Sn} {m : Nat} {K : List Int}
theorem keys_1 (h : Me w b1 g1 c1 b2 g2 c2 X s1 s2 N1 N2 m K) :
    Calls Try.prog 14 #[.iface 23 (.pointer (some ⟨b1, 0, none⟩)), .int .u64 20] X fun e w' => ∃ v s', e = .returned (.tuple #[v, .int .i64 0]) ∧ Dt X b1 g1 c1 b2 g2 c2 w' s' s2 ∧ Sv w' b1 g1 b2 g2 v K ∧ Seen s1 s' 2100 := by
  obtain ⟨s', e, v⟩ := keys_ok h.h1
  have q := keys_any b1 g1 c1 s1 20 (lit_isW 20 (by omega)) (by unfold Rm; have := h.l1; omega) X h.d.t
  rw [e] at q
  refine q.mono ?_
  rintro e_ w' ⟨y, rfl, hw, ho, hh⟩
  have hk1 : N1.map Sn.k = K := h.k1
  dsimp only at hw
  rw [hk1] at hw
  have hk : Keeps (own X b1 g1) X w' := hh.k.k.mono (fun i _ e => e.elim id (fun f => f.elim))
  have hb := own_kept h.d.r.ltb hk (fun i hi e => h.d.dj i e hi)
  refine ⟨y, s', rfl, (Dt.start h.d.t h.d.r h.d.dj).tx hh, ⟨hw.lies, ?_, fun x n d ex hp => ?_⟩, v⟩
  · rcases id hw.2 with ⟨e1, e2⟩ | ⟨g', cap, cur, e1, q1, q2, q3, _⟩
    · have : K.length = 0 := e2
      exact ⟨_, _, by rw [this]; exact e1, by omega⟩
    · exact ⟨_, _, e1, q3⟩
  · rcases id hw.2 with ⟨e1, e2⟩ | ⟨g', cap, cur, e1, q1, q2, q3, _⟩
    · have : K.length = 0 := e2
      omega
    · rw [e1] at ex ho
      injection ex with x1 x2 x3
      injection x1 with x1
      subst x1
      exact ⟨ho g' rfl, fun f => by
        have := h.d.r.lto ((hb _).1 f)
        dsimp only at this
        omega⟩
theorem keys_2 (h : Me w b1 g1 c1 b2 g2 c2 X s1 s2 N1 N2 m K) :
    Calls Try.prog 14 #[.iface 23 (.pointer (some ⟨b2, 0, none⟩)), .int .u64 20] X fun e w' => ∃ v s', e = .returned (.tuple #[v, .int .i64 0]) ∧ Dt X b1 g1 c1 b2 g2 c2 w' s1 s' ∧ Sv w' b1 g1 b2 g2 v K ∧ Seen s2 s' 2100 := by
  obtain ⟨s', e, v⟩ := keys_ok h.h2
  have q := keys_any b2 g2 c2 s2 20 (lit_isW 20 (by omega)) (by unfold Rm; have := h.l2; omega) X h.d.r
  rw [e] at q
  refine q.mono ?_
  rintro e_ w' ⟨y, rfl, hw, ho, hh⟩
  have hk1 : N2.map Sn.k = K := h.k2
  dsimp only at hw
  rw [hk1] at hw
  have hk : Keeps (own X b2 g2) X w' := hh.k.k.mono (fun i _ e => e.elim id (fun f => f.elim))
  have hb := own_kept h.d.t.ltb hk (fun i hi e => h.d.dj i hi e)
  refine ⟨y, s', rfl, (Dt.start h.d.t h.d.r h.d.dj).tp hh, ⟨hw.lies, ?_, fun x n d ex hp => ?_⟩, v⟩
  · rcases id hw.2 with ⟨e1, e2⟩ | ⟨g', cap, cur, e1, q1, q2, q3, _⟩
    · have : K.length = 0 := e2
      exact ⟨_, _, by rw [this]; exact e1, by omega⟩
    · exact ⟨_, _, e1, q3⟩
  · rcases id hw.2 with ⟨e1, e2⟩ | ⟨g', cap, cur, e1, q1, q2, q3, _⟩
    · have : K.length = 0 := e2
      omega
    · rw [e1] at ex ho
      injection ex with x1 x2 x3
      injection x1 with x1
      subst x1
      exact ⟨fun f => by
        have := h.d.t.lto ((hb _).1 f)
        dsimp only at this
        omega, ho g' rfl⟩
theorem Me.seen1 {s' : Wd} {X' : World} (h : Me w b1 g1 c1 b2 g2 c2 X s1 s2 N1 N2 m K) (d : Dt X b1 g1 c1 b2 g2 c2 X' s' s2) (v : Seen s1 s' 2100) (hl : s1.L = []) : Me w b1 g1 c1 b2 g2 c2 X' s' s2 N1 N2 m K := by
  obtain ⟨l, e, q, _⟩ := v.log
  exact ⟨h.d.trans d, h.h1.seen v, h.h2, h.k1, h.k2, by rw [e, hl]; simp; omega, h.l2⟩
theorem Me.seen2 {s' : Wd} {X' : World} (h : Me w b1 g1 c1 b2 g2 c2 X s1 s2 N1 N2 m K) (d : Dt X b1 g1 c1 b2 g2 c2 X' s1 s') (v : Seen s2 s' 2100) (hl : s2.L = []) : Me w b1 g1 c1 b2 g2 c2 X' s1 s' N1 N2 m K := by
  obtain ⟨l, e, q, _⟩ := v.log
  exact ⟨h.d.trans d, h.h1, h.h2.seen v, h.k1, h.k2, h.l1, by rw [e, hl]; simp; omega⟩
theorem len_2 (h : Me w b1 g1 c1 b2 g2 c2 X s1 s2 N1 N2 m K) :
    Calls Try.prog 15 #[.iface 23 (.pointer (some ⟨b2, 0, none⟩)), .int .u64 20] X fun e w' => ∃ s', e = .returned (.tuple #[.int .i64 (K.length : Int), .int .i64 0]) ∧ Dt X b1 g1 c1 b2 g2 c2 w' s1 s' := by
  obtain ⟨s', e, v⟩ := len_ok h.h2
  have q := len_any b2 g2 c2 s2 20 (lit_isW 20 (by omega)) (by unfold Rm; have := h.l2; omega) X h.d.r
  rw [e] at q
  refine q.mono ?_
  rintro e_ w' ⟨rfl, hh⟩
  have hn : N2.length = K.length := by rw [← h.k2]; unfold ks; rw [List.length_map]
  exact ⟨s', by rw [hn], (Dt.start h.d.t h.d.r h.d.dj).tp hh⟩
end
end Go.Proofs.Ytifmpiiaebnbiaa


/- The law SkipMeans, walked (layer 22). No statement of the seat is proved here. -/
namespace Go.Proofs.Ytifmpiiaebnbiaa
open Go.RowKit

set_option maxRecDepth 100000 in
set_option maxHeartbeats 4000000 in
theorem skm_walk (a : Option Addr) (n c : Nat) (a' : Option Addr) (n' c' : Nat) (w : World) (ho : StepsAt w a n) (hi : IntsAt w a' n') :
    Calls Try.prog 4 #[.slice a n c, .slice a' n' c'] w fun e w' => e = .returned (.bool true) ∧ Keeps (fun _ => False) w w' := by
  have hmk : ∀ w : World, (Instr.makeSlice 24 (.int .i64 2000) (.int .i64 2000)).run Try.prog w = .ok (.slice (some ⟨w.heap.size, 0, none⟩) 2000 2000) (w.alloc (.cells (madeCells #[.int .u64 0] 2000) 32)) := run_made 2000 (by omega)
  have HO := hid ho
  have HI := hid hi
  clear ho hi
  go_enter Try.func4, Try.ntmps4
  go_wp2_with fail
  refine (known_any _).mono ?_
  rintro e_ w0 ⟨rfl, k0⟩
  have HK0 := hid k0
  clear k0
  go_wp2_with fail
  have HD := hid (means_start w0).1
  have HK : Hid (∀ X s1 s2, Dt (bm (bm w0)) (w0.heap.size + 1) w0.heap.size 2000 (w0.heap.size + 1 + 1 + 1) (w0.heap.size + 1 + 1) 2000 X s1 s2 → Keeps (fun _ => False) w X) := hid fun X s1 s2 d => HK0.out.trans ((means_start w0).2 X s1 s2 d)
  clear HK0
  obtain ⟨W0, hW0⟩ : ∃ W0, W0 = bm (bm w0) := ⟨_, rfl⟩
  rw [← hW0] at HD HK
  have HW0 : Hid ((((w0.alloc (.cells (madeCells #[.int .u64 0] 2000) 32)).alloc (.cells #[.slice (some ⟨w0.heap.size, 0, none⟩) 2000 2000, .slice none 0 0, .int .i64 0, .int .i64 0] 27 (0, 0))).alloc (.cells (madeCells #[.int .u64 0] 2000) 32)).alloc (.cells #[.slice (some ⟨w0.heap.size + 1 + 1, 0, none⟩) 2000 2000, .slice none 0 0, .int .i64 0, .int .i64 0] 27 (0, 0)) = W0) := hid ((bm2 w0).symm.trans hW0.symm)
  clear hW0
  rw [HW0.out]
  clear HW0 hmk
  refine (rlay_0 _ _ _ _ HD.out.t).mono ?_
  rintro e_ w1 ⟨rfl, d1⟩
  replace HD := hid (HD.out.tx d1)
  clear d1
  go_wp2_with (go_at_call 8; refine (num_any _ _).mono ?_; rintro e_ w_ ⟨rfl, hw_⟩; subst w_)
  refine (rlay_0 _ _ _ _ HD.out.r).mono ?_
  rintro e_ w2 ⟨rfl, d1⟩
  replace HD := hid (HD.out.tp d1)
  clear d1
  go_wp2_with (go_at_call 8; refine (num_any _ _).mono ?_; rintro e_ w_ ⟨rfl, hw_⟩; subst w_)
  refine (slay_1 _ _ _ _ HD.out.t).mono ?_
  rintro e_ w3 ⟨rfl, d1⟩
  replace HD := hid (HD.out.tx d1)
  clear d1
  go_wp2_with (go_at_call 8; refine (num_any _ _).mono ?_; rintro e_ w_ ⟨rfl, hw_⟩; subst w_)
  refine (slay_1 _ _ _ _ HD.out.r).mono ?_
  rintro e_ w4 ⟨rfl, d1⟩
  replace HD := hid (HD.out.tp d1)
  clear d1
  obtain ⟨u1, u2, f1, y1, f2, y2, d2⟩ := HD.out.mutes
  have HM := hid (Me.start d2)
  clear d2 HD
  go_wp2_with (go_at_call 8; refine (num_any _ _).mono ?_; rintro e_ w_ ⟨rfl, hw_⟩; subst w_)
  clear f1 y1 f2 y2
  obtain ⟨W4, hW4⟩ : ∃ W4, W4 = (w4.setCell ⟨w0.heap.size + 1, 1, none⟩ (.slice none 0 0)).setCell ⟨w0.heap.size + 1 + 1 + 1, 1, none⟩ (.slice none 0 0) := ⟨_, rfl⟩
  rw [← hW4] at HM
  go_loopw [7, 8] (fun vS i wr => ∃ (k : Nat) (K : List Int) (av : Option Addr) (cv : Nat), k ≤ n ∧ k ≤ 150 ∧ K.length ≤ k ∧ i = .int .i64 k ∧ vS = .slice av K.length cv ∧ Hid (∃ s1 s2 N1 N2, s1.L = [] ∧ s2.L = [] ∧ Me W0 (w0.heap.size + 1) w0.heap.size 2000 (w0.heap.size + 1 + 1 + 1) (w0.heap.size + 1 + 1) 2000 wr s1 s2 N1 N2 k K ∧ Sv wr (w0.heap.size + 1) w0.heap.size (w0.heap.size + 1 + 1 + 1) (w0.heap.size + 1 + 1) (.slice av K.length cv) K)) (fun _ i _ => 150 - (intOf i).toNat)
  case atStart => exact ⟨0, [], none, 0, by omega, by omega, Nat.le_refl _, rfl, rfl, hid ⟨_, _, _, _, rfl, rfl, by rw [hW4] at HM; exact HM.out, Sv.nil _ _ _ _ _⟩⟩
  case round =>
    obtain ⟨k, K, av, cv, hk, hk2, hKl, rfl, rfl, hr⟩ := hrel
    clear HM hW4
    obtain ⟨s1, s2, N1, N2, l1, l2, hM, hS⟩ := hr.out
    have HM := hid hM
    have HS := hid hS
    have HL := hid (And.intro l1 l2)
    clear hr
    by_cases hlt : k < n
    · have hlt' : (k : Int) < (n : Int) := by omega
      by_cases h150 : k < 150
      · have h150' : (k : Int) < 150 := by omega
        obtain ⟨gs, off, rfl, ⟨kd, lv, ro, at_, x, y⟩, hs, hc⟩ := (StepsAt.kept HO.out (HK.out _ _ _ hM.d)) k hlt
        have d0 := hc 0 _ rfl
        have d1 := hc 1 _ rfl
        have d2 := hc 2 _ rfl
        have d3 := hc 3 _ rfl
        have d4 := hc 4 _ rfl
        have d5 := hc 5 _ rfl
        dsimp only at d0 d1 d2 d3 d4 d5
        rw [Nat.add_zero] at d0
        have hx : isW x := hs.2.2.1
        have HMn := hid (hM.new ((Keeps.refl (fun _ => False) wr).alloc (stO kd lv ro at_ x y)))
        have HSn := hid (hS.kept hM.d.t hM.d.r ((Keeps.refl (fun _ => False) wr).alloc (stO kd lv ro at_ x y)))
        have HIn := hid (IntsAt.keeps HI.out (((HK.out _ _ _ hM.d)).alloc (stO kd lv ro at_ x y)))
        have HX := hid hx
        have HT := hid (And.intro hM.d.t hM.d.r)
        clear hc hs hM hS HO HM HS hx l1 l2
        have hq : (wr.alloc (stO kd lv ro at_ x y)).heap[wr.heap.size]? = some (stO kd lv ro at_ x y) := alloc_block wr _
        have q1 := cell_of_block hq 1
        unfold stO at HMn HSn HIn hq q1
        by_cases hk' : k < n'
        · have hk'' : (k : Int) < (n' : Int) := by omega
          obtain ⟨gl, ofl, rfl, z, z1, z2, hz⟩ := HIn.out k hk'
          clear HI
          go_wp2_with fail
          refine (means_any HMn.out.base HL.out.1 HL.out.2 HSn.out (by omega) (by omega) kd lv ro at_ x y z HX.out).mono ?_
          rintro e_ w5 ⟨rfl, t1, t2, M1, M2, hm⟩
          have HM5 := hid (Me.over HMn.out.d hm)
          have HS5 := hid (HSn.out.on hm.d)
          have hq5 := Me.step_on HT.out.1 HT.out.2 hm
          have p0 := cell_of_block hq5 0
          have p4 := cell_of_block hq5 4
          have hlq : wr.heap.size < w5.heap.size := by
            have := hm.d.k.size
            simp at this
            omega
          have hcv : K.length ≤ cv := by
            obtain ⟨_, _, e, h⟩ := HS5.out.cp
            injection e with _ _ e3
            rw [e3]
            exact h
          clear hm HMn HSn HT hq HIn HL d0 d1 d2 d3 d4 d5 hz z1 z2
          have hq6 := hid hq5
          by_cases hkd3 : kd = 3
          · subst hkd3
            clear hq5
            go_wp2_with fail
            refine (with_any av K cv x hcv (by omega) _ HS5.out.lies).mono ?_
            rintro e_ w6 ⟨v6, rfl, hn6⟩
            have HS6 := hid (HS5.out.newR HM5.out.d.t HM5.out.d.r hn6)
            obtain ⟨a6, c6, rfl, _, _, k6, _⟩ := hn6
            have HM6 := hid (HM5.out.new k6)
            have r0 := cell_of_block ((k6.block _ hlq (fun f => f)).trans hq6.out) 0
            clear HM5 HS5 k6 p0 p4
            have hR : (withK K x).length ≤ k + 1 := Nat.le_trans (withK_len K x) (by omega)
            obtain ⟨g1_, g2_, f1, y1, f2, y2, dd⟩ := HM6.out.base.d.mutes
            have HM7 := hid (HM6.out.muted (HM6.out.d.trans dd))
            have HS7 := hid (HS6.out.on dd)
            clear HM6 HS6 dd
            go_wp2_with fail
            go_roundw
            case rel => exact ⟨k + 1, withK K x, a6, c6, by omega, by omega, hR, by go_num, rfl, hid ⟨_, _, _, _, rfl, rfl, HM7.out, HS7.out⟩⟩
            case measure => simp [intOf]; omega
          · by_cases hkd4 : kd = 4
            · subst hkd4
              clear hq5
              go_wp2_with fail
              refine (without_any av K cv x (by omega) _ HS5.out.lies).mono ?_
              rintro e_ w6 ⟨v6, rfl, hn6⟩
              have HS6 := hid ((Sv.nil _ _ _ _ _).newR (a := none) (c := 0) (L := []) HM5.out.d.t HM5.out.d.r hn6)
              obtain ⟨a6, c6, rfl, _, _, k6, _⟩ := hn6
              have HM6 := hid (HM5.out.new k6)
              clear HM5 HS5 k6 p0 p4
              have hR : (outK K x).length ≤ k + 1 := Nat.le_trans (List.length_filter_le _ _) (by omega)
              obtain ⟨g1_, g2_, f1, y1, f2, y2, dd⟩ := HM6.out.base.d.mutes
              have HM7 := hid (HM6.out.muted (HM6.out.d.trans dd))
              have HS7 := hid (HS6.out.on dd)
              clear HM6 HS6 dd
              go_wp2_with fail
              go_roundw
              case rel => exact ⟨k + 1, outK K x, a6, c6, by omega, by omega, hR, by go_num, rfl, hid ⟨_, _, _, _, rfl, rfl, HM7.out, HS7.out⟩⟩
              case measure => simp [intOf]; omega
            · have HM6 := hid HM5.out
              have HS6 := hid HS5.out
              have hR : K.length ≤ k + 1 := by omega
              have hnx : nxK kd K x = K := by unfold nxK; rw [if_neg hkd3, if_neg hkd4]
              rw [hnx] at HM6
              clear HM5 HS5 hq5 p4 hnx
              obtain ⟨g1_, g2_, f1, y1, f2, y2, dd⟩ := HM6.out.base.d.mutes
              have HM7 := hid (HM6.out.muted (HM6.out.d.trans dd))
              have HS7 := hid (HS6.out.on dd)
              clear HM6 HS6 dd
              go_wp2_with fail
              go_roundw
              case rel => exact ⟨k + 1, K, av, cv, by omega, by omega, hR, by go_num, rfl, hid ⟨_, _, _, _, rfl, rfl, HM7.out, HS7.out⟩⟩
              case measure => simp [intOf]; omega

        · have hk'' : ¬ (k : Int) < (n' : Int) := by omega
          clear HI
          go_wp2_with fail
          refine (means_any HMn.out.base HL.out.1 HL.out.2 HSn.out (by omega) (by omega) kd lv ro at_ x y lv HX.out).mono ?_
          rintro e_ w5 ⟨rfl, t1, t2, M1, M2, hm⟩
          have HM5 := hid (Me.over HMn.out.d hm)
          have HS5 := hid (HSn.out.on hm.d)
          have hq5 := Me.step_on HT.out.1 HT.out.2 hm
          have p0 := cell_of_block hq5 0
          have p4 := cell_of_block hq5 4
          have hlq : wr.heap.size < w5.heap.size := by
            have := hm.d.k.size
            simp at this
            omega
          have hcv : K.length ≤ cv := by
            obtain ⟨_, _, e, h⟩ := HS5.out.cp
            injection e with _ _ e3
            rw [e3]
            exact h
          clear hm HMn HSn HT hq HIn HL d0 d1 d2 d3 d4 d5
          have hq6 := hid hq5
          by_cases hkd3 : kd = 3
          · subst hkd3
            clear hq5
            go_wp2_with fail
            refine (with_any av K cv x hcv (by omega) _ HS5.out.lies).mono ?_
            rintro e_ w6 ⟨v6, rfl, hn6⟩
            have HS6 := hid (HS5.out.newR HM5.out.d.t HM5.out.d.r hn6)
            obtain ⟨a6, c6, rfl, _, _, k6, _⟩ := hn6
            have HM6 := hid (HM5.out.new k6)
            have r0 := cell_of_block ((k6.block _ hlq (fun f => f)).trans hq6.out) 0
            clear HM5 HS5 k6 p0 p4
            have hR : (withK K x).length ≤ k + 1 := Nat.le_trans (withK_len K x) (by omega)
            obtain ⟨g1_, g2_, f1, y1, f2, y2, dd⟩ := HM6.out.base.d.mutes
            have HM7 := hid (HM6.out.muted (HM6.out.d.trans dd))
            have HS7 := hid (HS6.out.on dd)
            clear HM6 HS6 dd
            go_wp2_with fail
            go_roundw
            case rel => exact ⟨k + 1, withK K x, a6, c6, by omega, by omega, hR, by go_num, rfl, hid ⟨_, _, _, _, rfl, rfl, HM7.out, HS7.out⟩⟩
            case measure => simp [intOf]; omega
          · by_cases hkd4 : kd = 4
            · subst hkd4
              clear hq5
              go_wp2_with fail
              refine (without_any av K cv x (by omega) _ HS5.out.lies).mono ?_
              rintro e_ w6 ⟨v6, rfl, hn6⟩
              have HS6 := hid ((Sv.nil _ _ _ _ _).newR (a := none) (c := 0) (L := []) HM5.out.d.t HM5.out.d.r hn6)
              obtain ⟨a6, c6, rfl, _, _, k6, _⟩ := hn6
              have HM6 := hid (HM5.out.new k6)
              clear HM5 HS5 k6 p0 p4
              have hR : (outK K x).length ≤ k + 1 := Nat.le_trans (List.length_filter_le _ _) (by omega)
              obtain ⟨g1_, g2_, f1, y1, f2, y2, dd⟩ := HM6.out.base.d.mutes
              have HM7 := hid (HM6.out.muted (HM6.out.d.trans dd))
              have HS7 := hid (HS6.out.on dd)
              clear HM6 HS6 dd
              go_wp2_with fail
              go_roundw
              case rel => exact ⟨k + 1, outK K x, a6, c6, by omega, by omega, hR, by go_num, rfl, hid ⟨_, _, _, _, rfl, rfl, HM7.out, HS7.out⟩⟩
              case measure => simp [intOf]; omega
            · have HM6 := hid HM5.out
              have HS6 := hid HS5.out
              have hR : K.length ≤ k + 1 := by omega
              have hnx : nxK kd K x = K := by unfold nxK; rw [if_neg hkd3, if_neg hkd4]
              rw [hnx] at HM6
              clear HM5 HS5 hq5 p4 hnx
              obtain ⟨g1_, g2_, f1, y1, f2, y2, dd⟩ := HM6.out.base.d.mutes
              have HM7 := hid (HM6.out.muted (HM6.out.d.trans dd))
              have HS7 := hid (HS6.out.on dd)
              clear HM6 HS6 dd
              go_wp2_with fail
              go_roundw
              case rel => exact ⟨k + 1, K, av, cv, by omega, by omega, hR, by go_num, rfl, hid ⟨_, _, _, _, rfl, rfl, HM7.out, HS7.out⟩⟩
              case measure => simp [intOf]; omega

      · have h150x : ¬ (k : Int) < 150 := by omega
        have HKl : K.length ≤ 150 := by omega
        clear HO HI
        go_wp2_with fail
        refine (keys_1 HM.out).mono ?_
        rintro e_ w5 ⟨v5, s5, rfl, d5, k5, n5⟩
        have HM5 := hid (HM.out.seen1 d5 n5 HL.out.1)
        have HS5 := hid (HS.out.on d5)
        have HA5 := hid k5
        clear HM HS d5 k5 n5
        go_wp2_with fail
        refine (keys_2 HM5.out).mono ?_
        rintro e_ w6 ⟨v6, s6, rfl, d6, k6, n6⟩
        have HM6 := hid (HM5.out.seen2 d6 n6 HL.out.2)
        have HS6 := hid (HS5.out.on d6)
        have HA6 := hid (HA5.out.on d6)
        have HB6 := hid k6
        clear HM5 HS5 HA5 d6 k6 n6 HL
        go_wp2_with fail
        refine (len_2 HM6.out).mono ?_
        rintro e_ w7 ⟨s7, rfl, d7⟩
        have HD7 := hid (HM6.out.d.trans d7)
        have HS7 := hid (HS6.out.on d7)
        have HA7 := hid (HA6.out.on d7)
        have HB7 := hid (HB6.out.on d7)
        clear HM6 HS6 HA6 HB6 d7
        go_wp2_with (go_at_call 8; refine (num_any _ _).mono ?_; rintro e_ w_ ⟨rfl, hw_⟩; subst w_)
        refine (words_same _ _ _ (by omega) _ HA7.out.lies HS7.out.lies).mono ?_
        rintro e_ w8 ⟨rfl, m8, hw8⟩
        have k8 : Keeps (fun _ => False) w7 w8 := by rw [hw8]; exact (Keeps.refl _ _).drewN _
        have HD8 := hid (HD7.out.new k8)
        have HS8 := hid (HS7.out.kept HD7.out.t HD7.out.r k8)
        have HB8 := hid (HB7.out.kept HD7.out.t HD7.out.r k8)
        clear HD7 HS7 HB7 HA7 k8 hw8
        go_wp2_with (go_at_call 8; refine (num_any _ _).mono ?_; rintro e_ w_ ⟨rfl, hw_⟩; subst w_)
        refine (words_same _ _ _ (by omega) _ HB8.out.lies HS8.out.lies).mono ?_
        rintro e_ w9 ⟨rfl, m9, hw9⟩
        have k9 : Keeps (fun _ => False) w8 w9 := by rw [hw9]; exact (Keeps.refl _ _).drewN _
        have HF := hid (HK.out _ _ _ (HD8.out.new k9))
        clear HD8 HS8 HB8 k9 hw9 HK
        go_wp2_with fail
        go_ret
        exact ⟨rfl, HF.out⟩
    · have hltx : ¬ (k : Int) < (n : Int) := by omega
      have HKl : K.length ≤ 150 := by omega
      clear HO HI
      go_wp2_with fail
      refine (keys_1 HM.out).mono ?_
      rintro e_ w5 ⟨v5, s5, rfl, d5, k5, n5⟩
      have HM5 := hid (HM.out.seen1 d5 n5 HL.out.1)
      have HS5 := hid (HS.out.on d5)
      have HA5 := hid k5
      clear HM HS d5 k5 n5
      go_wp2_with fail
      refine (keys_2 HM5.out).mono ?_
      rintro e_ w6 ⟨v6, s6, rfl, d6, k6, n6⟩
      have HM6 := hid (HM5.out.seen2 d6 n6 HL.out.2)
      have HS6 := hid (HS5.out.on d6)
      have HA6 := hid (HA5.out.on d6)
      have HB6 := hid k6
      clear HM5 HS5 HA5 d6 k6 n6 HL
      go_wp2_with fail
      refine (len_2 HM6.out).mono ?_
      rintro e_ w7 ⟨s7, rfl, d7⟩
      have HD7 := hid (HM6.out.d.trans d7)
      have HS7 := hid (HS6.out.on d7)
      have HA7 := hid (HA6.out.on d7)
      have HB7 := hid (HB6.out.on d7)
      clear HM6 HS6 HA6 HB6 d7
      go_wp2_with (go_at_call 8; refine (num_any _ _).mono ?_; rintro e_ w_ ⟨rfl, hw_⟩; subst w_)
      refine (words_same _ _ _ (by omega) _ HA7.out.lies HS7.out.lies).mono ?_
      rintro e_ w8 ⟨rfl, m8, hw8⟩
      have k8 : Keeps (fun _ => False) w7 w8 := by rw [hw8]; exact (Keeps.refl _ _).drewN _
      have HD8 := hid (HD7.out.new k8)
      have HS8 := hid (HS7.out.kept HD7.out.t HD7.out.r k8)
      have HB8 := hid (HB7.out.kept HD7.out.t HD7.out.r k8)
      clear HD7 HS7 HB7 HA7 k8 hw8
      go_wp2_with (go_at_call 8; refine (num_any _ _).mono ?_; rintro e_ w_ ⟨rfl, hw_⟩; subst w_)
      refine (words_same _ _ _ (by omega) _ HB8.out.lies HS8.out.lies).mono ?_
      rintro e_ w9 ⟨rfl, m9, hw9⟩
      have k9 : Keeps (fun _ => False) w8 w9 := by rw [hw9]; exact (Keeps.refl _ _).drewN _
      have HF := hid (HK.out _ _ _ (HD8.out.new k9))
      clear HD8 HS8 HB8 k9 hw9 HK
      go_wp2_with fail
      go_ret
      exact ⟨rfl, HF.out⟩
end Go.Proofs.Ytifmpiiaebnbiaa
