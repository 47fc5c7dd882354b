
/- The walks of become, bind, lay and leaf (layer 24). No statement of the seat is proved here. -/
import Derived.Test.YtalopkllldnipaaRkS
import Derived.Test.YtalopkllldnipaaRkRb
import Derived.Test.YtalopkllldnipaaRkDM
import Derived.Test.YtalopkllldnipaaArM
namespace Go.Proofs.Ytalopkllldnipaa
open Go.RowKit

theorem chg_r {b g c : Nat} {s s1 : Wd} {a e : Int} {o l : List Int} {u v : Value} (heq : Hid (chgU a o l s = (((), e), s1))) (ha : isW a) (hol : o.length = l.length) (hl : ∀ i, isW (oat l i)) (hn : l.length ≤ 5) {w : World} (h : WdAt w b g c s) (ho : Lies w u o) (hk : Lies w v l) (nu : ∀ a c n, u = .slice (some a) n c → ¬ two b g a.block) (ne : ∀ a c n, v = .slice (some a) n c → ¬ two b g a.block) :
    Calls Try.prog 82 #[.iface 24 (.pointer (some ⟨b, 0, none⟩)), .int .u64 a, u, v] w fun r w' => r = .returned (.int .i64 e) ∧ WdAt w' b g c s1 ∧ Keeps (two b g) w w' := by
  have q := kchg_any b g c s a ha o l hol hl u v hn w h ho hk nu ne
  have he : s.chg a o l = (e, s1) := by
    have q := heq.out
    unfold chgU at q
    injection q with q1 q2
    injection q1 with q3 q4
    exact Prod.ext q4 q2
  rw [he] at q
  exact q
theorem put_r {b g c : Nat} {s s1 : Wd} {a e : Int} {l : List Int} {v : Value} (heq : Hid (putsU a l s = (((), e), s1))) (ha : isW a) (hl : ∀ i, isW (oat l i)) (hn : l.length ≤ 5) {w : World} (h : WdAt w b g c s) (hk : Lies w v l) (ne : ∀ a c n, v = .slice (some a) n c → ¬ two b g a.block) :
    Calls Try.prog 63 #[.iface 24 (.pointer (some ⟨b, 0, none⟩)), .int .u64 a, v] w fun r w' => r = .returned (.int .i64 e) ∧ WdAt w' b g c s1 ∧ Keeps (two b g) w w' := by
  have q := kput_any b g c s a ha l hl v hn w h hk ne
  have he : s.puts a l = (e, s1) := by
    have q := heq.out
    unfold putsU at q
    injection q with q1 q2
    injection q1 with q3 q4
    exact Prod.ext q4 q2
  rw [he] at q
  exact q
/-- A block that has these words first reads so. -/
theorem Blk.lies {w : World} {q : Nat} {ty : TypeId} {l : List Int} (h : Blk w q ty (wordsV l).toArray) (c : Nat) : Lies w (.slice (some ⟨q, 0, none⟩) l.length c) l :=
  ⟨some ⟨q, 0, none⟩, c, rfl, fun i hi => ⟨q, 0, rfl, by rw [Nat.zero_add]; exact h.cell (by simp [wordsV, oat, hi])⟩⟩
theorem slice_ne {q b g : Nat} (hb : q ≠ b ∧ q ≠ g) (o n0 c0 : Nat) : ∀ a c n, Value.slice (some ⟨q, o, none⟩) n0 c0 = .slice (some a) n c → ¬ two b g a.block := by
  intro a c n e f
  injection e with e1
  injection e1 with e1
  subst e1
  rcases f with f | f
  · exact hb.1 f
  · exact hb.2 f
theorem oat2 {x y : Int} (hx : isW x) (hy : isW y) : ∀ i, isW (oat [x, y] i) := fun i => by
  match i with
  | 0 => exact hx
  | 1 => exact hy
  | k + 2 => exact zero_isW
theorem oat5 {x0 x1 x2 x3 x4 : Int} (h0 : isW x0) (h1 : isW x1) (h2 : isW x2) (h3 : isW x3) (h4 : isW x4) : ∀ i, isW (oat [x0, x1, x2, x3, x4] i) := fun i => by
  match i with
  | 0 => exact h0
  | 1 => exact h1
  | 2 => exact h2
  | 3 => exact h3
  | 4 => exact h4
  | k + 5 => exact zero_isW

set_option maxHeartbeats 2000000 in
theorem become_any {b g c : Nat} {s s1 : Wd} {h0 n r e : Int} {p : Int × Int} (heq : Hid (becU h0 p n r s = (((), e), s1))) (hh0 : isW h0) (hn : isW n) (hr : isW r) {w : World} (h : WdAt w b g c s) :
    Calls Try.prog 57 #[.agg #[.int .u64 p.1, .int .u64 p.2], .iface 24 (.pointer (some ⟨b, 0, none⟩)), .int .u64 h0, .int .u64 n, .int .u64 r] w fun r w' => r = .returned (.int .i64 e) ∧ WdAt w' b g c s1 ∧ Keeps (two b g) w w' := by
  have hsz : b < w.heap.size ∧ g < w.heap.size := ⟨h.ltb, h.ltg⟩
  have HL := hid hsz
  have HH := hid h
  clear h hsz
  obtain ⟨p0, p1⟩ := p
  have kn : Keeps (fun _ => False) w ((w.alloc (.cells #[.int .u64 p0, .int .u64 p1] 111)).alloc (.cells #[.int .u64 n, .int .u64 r] 25)) := (keeps_new w _).alloc _
  have hB1 : Blk ((w.alloc (.cells #[.int .u64 p0, .int .u64 p1] 111)).alloc (.cells #[.int .u64 n, .int .u64 r] 25)) w.heap.size 111 (wordsV [p0, p1]).toArray := (blk_new w _ _).kept (keeps_new _ _) (fun f => f)
  have hB2 : Blk ((w.alloc (.cells #[.int .u64 p0, .int .u64 p1] 111)).alloc (.cells #[.int .u64 n, .int .u64 r] 25)) (w.heap.size + 1) 25 (wordsV [n, r]).toArray := by
    have q := blk_new (w.alloc (.cells #[.int .u64 p0, .int .u64 p1] 111)) 25 #[.int .u64 n, .int .u64 r]
    have e : (w.alloc (.cells #[.int .u64 p0, .int .u64 p1] 111)).heap.size = w.heap.size + 1 := by simp
    rw [e] at q
    exact q
  have HK := hid kn
  have HB1 := hid hB1
  have HB2 := hid hB2
  clear kn hB1 hB2
  go_enter Try.func57, Try.ntmps57
  go_wp2_with fail
  refine (chg_r (u := .slice (some ⟨w.heap.size, 0, none⟩) 2 2) (v := .slice (some ⟨w.heap.size + 1, 0, none⟩) 2 2) heq hh0 rfl (oat2 hn hr) (by simp) (HH.out.kept HK.out (fun f => f) (fun f => f)) (HB1.out.lies 2) (HB2.out.lies 2) (slice_ne (by have := HL.out; omega) _ _ _) (slice_ne (by have := HL.out; omega) _ _ _)).mono ?_
  rintro r_ w1 ⟨rfl, h1, k1⟩
  have HF := hid (And.intro h1 ((HK.out.mono (T := two b g) (fun _ _ f => f.elim)).trans k1))
  clear h1 k1 HK HB1 HB2
  go_wp2_with fail
  go_ret
  exact ⟨rfl, HF.out.1, HF.out.2⟩

set_option maxHeartbeats 2000000 in
theorem leaf_any (n : Nat) (hn : n < 18446744073709551616) (x : Int) (hx : isW x) (w : World) :
    Calls Try.prog 53 #[.float .f64 n, .int .u64 x] w fun r w' => r = .returned (.pointer (some ⟨w.heap.size, 0, none⟩)) ∧ TrAt w' w.heap.size (lef (ofR n) x) ∧ Keeps (fun _ => False) w w' := by
  have hW : isW (ofR n) := by
    unfold ofR isW
    split
    · omega
    · split <;> omega
  have hR : Hid (∀ X : World, Calls Try.prog 76 #[.float .f64 n] X fun e w' => e = .returned (.int .u64 (ofR n)) ∧ w' = X) := hid (fun X => word_ofReal n X hn)
  generalize ofR n = k at hR hW ⊢
  go_enter Try.func53, Try.ntmps53
  go_wp2_with fail
  refine (hR.out _).mono ?_
  rintro r w1 ⟨rfl, hw1⟩
  subst w1
  go_wp2_with fail
  go_ret
  exact ⟨rfl, ⟨blk_new w _ _, rfl, zero_isW, oat5 hW hx zero_isW zero_isW (by unfold isW; omega)⟩, keeps_new w _⟩

theorem cell_other {X : World} {q k i j : Nat} {v : Value} (h : k ≠ q) : (X.setCell ⟨q, i, none⟩ v).cell? ⟨k, j, none⟩ = X.cell? ⟨k, j, none⟩ := World.cell?_setCell_other _ _ _ _ (by simp)
theorem TrAt.sets {w : World} {q : Nat} {t : Tr} (h : TrAt w q t) {x y z : Int} (hx : isW x) (hy : isW y) (hz : isW z) (hc : isW (oat t.c 0)) (hd : isW (oat t.c 1)) : TrAt (((w.setCell ⟨q, 3, none⟩ (.int .u64 x)).setCell ⟨q, 4, none⟩ (.int .u64 y)).setCell ⟨q, 5, none⟩ (.int .u64 z)) q { t with c := [oat t.c 0, oat t.c 1, x, y, z] } :=
  ⟨((h.blk.set 3 _).set 4 _).set 5 _, rfl, h.wat, oat5 hc hd hx hy hz⟩
theorem keeps_set3 (w : World) (q i j k : Nat) (a b c : Value) : Keeps (fun k => k = q) w (((w.setCell ⟨q, i, none⟩ a).setCell ⟨q, j, none⟩ b).setCell ⟨q, k, none⟩ c) := ((keeps_set w q i a).trans (keeps_set _ q j b)).trans (keeps_set _ q k c)
set_option maxHeartbeats 2000000 in
/-- A node's children are these from now on, the first one having the greater rank. -/
theorem bind_in {b g c q : Nat} {t : Tr} {s s1 : Wd} {lt lr rt rr e : Int} (hx : isW lt) (hy : isW rt) {w : World} (h : WdAt w b g c s) (ht : TrAt w q t) (hq : q ≠ b ∧ q ≠ g) (hle : ¬ lr < rr) (heq : Hid (chgU t.at_ t.c [oat t.c 0, oat t.c 1, lt, rt, uw (rr + 1)] s = (((), e), s1))) :
    Calls Try.prog 80 #[.pointer (some ⟨q, 0, none⟩), .iface 24 (.pointer (some ⟨b, 0, none⟩)), .agg #[.int .u64 lt, .int .u64 lr], .agg #[.int .u64 rt, .int .u64 rr]] w fun r w' => r = .returned (.int .i64 e) ∧ WdAt w' b g c s1 ∧ Keeps (three b g q) w w' ∧ TrAt w' q { t with c := [oat t.c 0, oat t.c 1, lt, rt, uw (rr + 1)] } := by
  have hsz : b < w.heap.size ∧ g < w.heap.size ∧ q < w.heap.size := ⟨h.ltb, h.ltg, ht.lt⟩
  have HL := hid hsz
  have HH := hid h
  have HQ := hid hq
  have HT := hid ht
  clear h hq hsz
  have kn := ((keeps_new w (.cells #[.int .u64 lt, .int .u64 lr] 139)).alloc (.cells #[.int .u64 rt, .int .u64 rr] 139))
  obtain ⟨c0, c1, c2, c3, c4, c5⟩ := (ht.kept kn (fun f => f)).cells
  have hgt : ¬ lr < rr := hle
  have HK := hid kn
  clear kn ht
  go_enter Try.func80, Try.ntmps80
  go_wp2_with fail
  have HB : Hid (∃ X, X = (((w.alloc (.cells #[.int .u64 lt, .int .u64 lr] 139)).alloc (.cells #[.int .u64 rt, .int .u64 rr] 139)).alloc (.cells #[.int .u64 (oat t.c 0), .int .u64 (oat t.c 1), .int .u64 (oat t.c 2), .int .u64 (oat t.c 3), .int .u64 (oat t.c 4)] 87)) ∧ WdAt X b g c s ∧ Keeps (fun _ => False) w X ∧ TrAt X q t ∧ Blk X w.heap.size 139 #[.int .u64 lt, .int .u64 lr] ∧ Blk X (w.heap.size + 1) 139 #[.int .u64 rt, .int .u64 rr] ∧ Blk X (w.heap.size + 2) 87 #[.int .u64 (oat t.c 0), .int .u64 (oat t.c 1), .int .u64 (oat t.c 2), .int .u64 (oat t.c 3), .int .u64 (oat t.c 4)]) := by
    have k3 := HK.out.alloc (.cells #[.int .u64 (oat t.c 0), .int .u64 (oat t.c 1), .int .u64 (oat t.c 2), .int .u64 (oat t.c 3), .int .u64 (oat t.c 4)] 87)
    have b1 := ((blk_new w 139 #[.int .u64 lt, .int .u64 lr]).kept (keeps_new _ (.cells #[.int .u64 rt, .int .u64 rr] 139)) (fun f => f)).kept (keeps_new _ (.cells #[.int .u64 (oat t.c 0), .int .u64 (oat t.c 1), .int .u64 (oat t.c 2), .int .u64 (oat t.c 3), .int .u64 (oat t.c 4)] 87)) (fun f => f)
    have b2 := (blk_new (w.alloc (.cells #[.int .u64 lt, .int .u64 lr] 139)) 139 #[.int .u64 rt, .int .u64 rr]).kept (keeps_new _ (.cells #[.int .u64 (oat t.c 0), .int .u64 (oat t.c 1), .int .u64 (oat t.c 2), .int .u64 (oat t.c 3), .int .u64 (oat t.c 4)] 87)) (fun f => f)
    have b3 := blk_new ((w.alloc (.cells #[.int .u64 lt, .int .u64 lr] 139)).alloc (.cells #[.int .u64 rt, .int .u64 rr] 139)) 87 #[.int .u64 (oat t.c 0), .int .u64 (oat t.c 1), .int .u64 (oat t.c 2), .int .u64 (oat t.c 3), .int .u64 (oat t.c 4)]
    have e1 : (w.alloc (.cells #[.int .u64 lt, .int .u64 lr] 139)).heap.size = w.heap.size + 1 := by simp
    have e2 : ((w.alloc (.cells #[.int .u64 lt, .int .u64 lr] 139)).alloc (.cells #[.int .u64 rt, .int .u64 rr] 139)).heap.size = w.heap.size + 2 := by simp
    rw [e1] at b2
    rw [e2] at b3
    exact hid ⟨_, rfl, HH.out.kept k3 (fun f => f) (fun f => f), k3, HT.out.kept k3 (fun f => f), b1, b2, b3⟩
  obtain ⟨X, HX⟩ : ∃ X, Hid (X = (((w.alloc (.cells #[.int .u64 lt, .int .u64 lr] 139)).alloc (.cells #[.int .u64 rt, .int .u64 rr] 139)).alloc (.cells #[.int .u64 (oat t.c 0), .int .u64 (oat t.c 1), .int .u64 (oat t.c 2), .int .u64 (oat t.c 3), .int .u64 (oat t.c 4)] 87)) ∧ WdAt X b g c s ∧ Keeps (fun _ => False) w X ∧ TrAt X q t ∧ Blk X w.heap.size 139 #[.int .u64 lt, .int .u64 lr] ∧ Blk X (w.heap.size + 1) 139 #[.int .u64 rt, .int .u64 rr] ∧ Blk X (w.heap.size + 2) 87 #[.int .u64 (oat t.c 0), .int .u64 (oat t.c 1), .int .u64 (oat t.c 2), .int .u64 (oat t.c 3), .int .u64 (oat t.c 4)]) := by
    obtain ⟨X, h⟩ := HB.out
    exact ⟨X, hid h⟩
  rw [← HX.out.1]
  clear HB HK HH c0 c1 c2 c3 c4 c5
  obtain ⟨c0, c1, c2, c3, c4, c5⟩ := HX.out.2.2.2.1.cells
  have f3 := HX.out.2.2.2.1.blk.frozen 3
  have f4 := HX.out.2.2.2.1.blk.frozen 4
  have f5 := HX.out.2.2.2.1.blk.frozen 5
  have z0 : X.cell? ⟨w.heap.size, 0, none⟩ = some (.int .u64 lt) := HX.out.2.2.2.2.1.cell (i := 0) rfl
  have z1 : X.cell? ⟨w.heap.size + 1, 0, none⟩ = some (.int .u64 rt) := HX.out.2.2.2.2.2.1.cell (i := 0) rfl
  have z2 : X.cell? ⟨w.heap.size + 1, 1, none⟩ = some (.int .u64 rr) := HX.out.2.2.2.2.2.1.cell (i := 1) rfl
  have n0 : w.heap.size ≠ q := by have := HL.out; omega
  have n1 : w.heap.size + 1 ≠ q := by have := HL.out; omega
  go_region_held3 (fun W : World => W.cell? ⟨w.heap.size, 0, none⟩ = some (.int .u64 lt) ∧ W.cell? ⟨w.heap.size + 1, 0, none⟩ = some (.int .u64 rt) ∧ W.cell? ⟨w.heap.size + 1, 1, none⟩ = some (.int .u64 rr)) (first | assumption | (exact ⟨z0, z1, z2⟩) | (exact ⟨by simp [cell_other n0, z0], by simp [cell_other n1, z1], by simp [cell_other n1, z2]⟩) | go_keep) (fail)
  rename_i hHeld
  clear hHeld
  have HY : Hid (∀ Y, Y.heap = (((X.setCell ⟨q, 3, none⟩ (.int .u64 lt)).setCell ⟨q, 4, none⟩ (.int .u64 rt)).setCell ⟨q, 5, none⟩ (.int .u64 (uw (rr + 1)))).heap ∧ Y.os = X.os ∧ Y.tape = X.tape ∧ Y.output = X.output → Calls Try.prog 82 #[.iface 24 (.pointer (some ⟨b, 0, none⟩)), .int .u64 t.at_, .slice (some ⟨w.heap.size + 1 + 1, 0, none⟩) 5 5, .slice (some ⟨q, 1, none⟩) 5 5] Y fun r w' => r = .returned (.int .i64 e) ∧ Hid (WdAt w' b g c s1 ∧ Keeps (three b g q) w w' ∧ TrAt w' q { t with c := [oat t.c 0, oat t.c 1, lt, rt, uw (rr + 1)] }) ∧ w'.cell? ⟨q, 0, none⟩ = some (.int .u64 t.at_)) := by
    refine hid (fun Y hY => ?_)
    have kx := keeps_set3 X q 3 4 5 (.int .u64 lt) (.int .u64 rt) (.int .u64 (uw (rr + 1)))
    have ky : Keeps (fun k => k = q) X Y := kx.like hY.1 hY.2.1 hY.2.2.1 hY.2.2.2
    have hw : WdAt Y b g c s := HX.out.2.1.kept ky (fun e => HQ.out.1 e.symm) (fun e => HQ.out.2 e.symm)
    have ht0 := HX.out.2.2.2.1.sets hx hy (uw_isW (rr + 1)) (HT.out.wc 0) (HT.out.wc 1)
    have ht : TrAt Y q { t with c := [oat t.c 0, oat t.c 1, lt, rt, uw (rr + 1)] } := ⟨by unfold Blk; rw [hY.1]; exact ht0.blk, ht0.len, ht0.wat, ht0.wc⟩
    have hb2 : Blk Y (w.heap.size + 2) 87 (wordsV [oat t.c 0, oat t.c 1, oat t.c 2, oat t.c 3, oat t.c 4]).toArray := HX.out.2.2.2.2.2.2.kept ky (by have := HL.out; omega)
    have hl2 := hb2.lies 5
    have e5 : [oat t.c 0, oat t.c 1, oat t.c 2, oat t.c 3, oat t.c 4] = t.c := by
      have q := HT.out.len
      match h : t.c, q with
      | [a0, a1, a2, a3, a4], _ => rfl
    rw [e5] at hl2
    have hl3 : Lies Y (.slice (some ⟨w.heap.size + 1 + 1, 0, none⟩) 5 5) t.c := by rw [HT.out.len] at hl2; exact hl2
    refine (chg_r heq HT.out.wat HT.out.len ht.wc (by simp) hw hl3 ht.lies (slice_ne (by have := HL.out; omega) _ _ _) (slice_ne HQ.out _ _ _)).mono ?_
    rintro r w' ⟨rfl, h1, k1⟩
    have hq2 := ht.kept k1 (fun f => by rcases f with f | f; exact HQ.out.1 f; exact HQ.out.2 f)
    refine ⟨rfl, hid ⟨h1, ?_, hq2⟩, hq2.cells.1⟩
    exact ((HX.out.2.2.1.mono (T := three b g q) (fun _ _ f => f.elim)).trans (ky.mono (fun _ _ f => .inl f))).three k1
  have hc0 : ((((X.setCell ⟨q, 3, none⟩ (.int .u64 lt)).setCell ⟨q, 4, none⟩ (.int .u64 rt)).setCell ⟨q, 5, none⟩ (.int .u64 (IntKind.u64.wrap (rr + 1)))).drew).cell? ⟨q, 0, none⟩ = some (.int .u64 t.at_) := (HX.out.2.2.2.1.sets hx hy (uw_isW (rr + 1)) (HT.out.wc 0) (HT.out.wc 1)).cells.1
  clear c0 c1 c2 c3 c4 c5 f3 f4 f5 z0 z1 z2 n0 n1 heq HT HX
  go_wp2_with fail
  go_region_held3 (fun W : World => W.cell? ⟨q, 0, none⟩ = some (.int .u64 t.at_)) (first | assumption | (exact hc0) | go_keep) ((go_at_call 82; refine (HY.out _ (by exact ⟨rfl, rfl, rfl, rfl⟩)).mono ?_; rintro e_ w2 ⟨rfl, h2, hc2⟩))
  clear HY
  go_wp2_with fail
  go_ret
  exact ⟨rfl, h2.out.1, h2.out.2.1, h2.out.2.2⟩
set_option maxHeartbeats 2000000 in
/-- A node's children are these from now on, the second one having the greater rank. -/
theorem bind_sw {b g c q : Nat} {t : Tr} {s s1 : Wd} {lt lr rt rr e : Int} (hx : isW rt) (hy : isW lt) {w : World} (h : WdAt w b g c s) (ht : TrAt w q t) (hq : q ≠ b ∧ q ≠ g) (hle : lr < rr) (heq : Hid (chgU t.at_ t.c [oat t.c 0, oat t.c 1, rt, lt, uw (lr + 1)] s = (((), e), s1))) :
    Calls Try.prog 80 #[.pointer (some ⟨q, 0, none⟩), .iface 24 (.pointer (some ⟨b, 0, none⟩)), .agg #[.int .u64 lt, .int .u64 lr], .agg #[.int .u64 rt, .int .u64 rr]] w fun r w' => r = .returned (.int .i64 e) ∧ WdAt w' b g c s1 ∧ Keeps (three b g q) w w' ∧ TrAt w' q { t with c := [oat t.c 0, oat t.c 1, rt, lt, uw (lr + 1)] } := by
  have hsz : b < w.heap.size ∧ g < w.heap.size ∧ q < w.heap.size := ⟨h.ltb, h.ltg, ht.lt⟩
  have HL := hid hsz
  have HH := hid h
  have HQ := hid hq
  have HT := hid ht
  clear h hq hsz
  have kn2 := ((keeps_new w (.cells #[.int .u64 rt, .int .u64 rr] 139)).alloc (.cells #[.int .u64 lt, .int .u64 lr] 139))
  obtain ⟨c0, c1, c2, c3, c4, c5⟩ := (ht.kept kn2 (fun f => f)).cells
  have HK := hid kn2
  clear kn2 ht
  go_enter Try.func80, Try.ntmps80
  go_wp2_with fail
  have HB : Hid (∃ X, X = (((w.alloc (.cells #[.int .u64 rt, .int .u64 rr] 139)).alloc (.cells #[.int .u64 lt, .int .u64 lr] 139)).alloc (.cells #[.int .u64 (oat t.c 0), .int .u64 (oat t.c 1), .int .u64 (oat t.c 2), .int .u64 (oat t.c 3), .int .u64 (oat t.c 4)] 87)) ∧ WdAt X b g c s ∧ Keeps (fun _ => False) w X ∧ TrAt X q t ∧ Blk X w.heap.size 139 #[.int .u64 rt, .int .u64 rr] ∧ Blk X (w.heap.size + 1) 139 #[.int .u64 lt, .int .u64 lr] ∧ Blk X (w.heap.size + 2) 87 #[.int .u64 (oat t.c 0), .int .u64 (oat t.c 1), .int .u64 (oat t.c 2), .int .u64 (oat t.c 3), .int .u64 (oat t.c 4)]) := by
    have k3 := HK.out.alloc (.cells #[.int .u64 (oat t.c 0), .int .u64 (oat t.c 1), .int .u64 (oat t.c 2), .int .u64 (oat t.c 3), .int .u64 (oat t.c 4)] 87)
    have b1 := ((blk_new w 139 #[.int .u64 rt, .int .u64 rr]).kept (keeps_new _ (.cells #[.int .u64 lt, .int .u64 lr] 139)) (fun f => f)).kept (keeps_new _ (.cells #[.int .u64 (oat t.c 0), .int .u64 (oat t.c 1), .int .u64 (oat t.c 2), .int .u64 (oat t.c 3), .int .u64 (oat t.c 4)] 87)) (fun f => f)
    have b2 := (blk_new (w.alloc (.cells #[.int .u64 rt, .int .u64 rr] 139)) 139 #[.int .u64 lt, .int .u64 lr]).kept (keeps_new _ (.cells #[.int .u64 (oat t.c 0), .int .u64 (oat t.c 1), .int .u64 (oat t.c 2), .int .u64 (oat t.c 3), .int .u64 (oat t.c 4)] 87)) (fun f => f)
    have b3 := blk_new ((w.alloc (.cells #[.int .u64 rt, .int .u64 rr] 139)).alloc (.cells #[.int .u64 lt, .int .u64 lr] 139)) 87 #[.int .u64 (oat t.c 0), .int .u64 (oat t.c 1), .int .u64 (oat t.c 2), .int .u64 (oat t.c 3), .int .u64 (oat t.c 4)]
    have e1 : (w.alloc (.cells #[.int .u64 rt, .int .u64 rr] 139)).heap.size = w.heap.size + 1 := by simp
    have e2 : ((w.alloc (.cells #[.int .u64 rt, .int .u64 rr] 139)).alloc (.cells #[.int .u64 lt, .int .u64 lr] 139)).heap.size = w.heap.size + 2 := by simp
    rw [e1] at b2
    rw [e2] at b3
    exact hid ⟨_, rfl, HH.out.kept k3 (fun f => f) (fun f => f), k3, HT.out.kept k3 (fun f => f), b1, b2, b3⟩
  obtain ⟨X, HX⟩ : ∃ X, Hid (X = (((w.alloc (.cells #[.int .u64 rt, .int .u64 rr] 139)).alloc (.cells #[.int .u64 lt, .int .u64 lr] 139)).alloc (.cells #[.int .u64 (oat t.c 0), .int .u64 (oat t.c 1), .int .u64 (oat t.c 2), .int .u64 (oat t.c 3), .int .u64 (oat t.c 4)] 87)) ∧ WdAt X b g c s ∧ Keeps (fun _ => False) w X ∧ TrAt X q t ∧ Blk X w.heap.size 139 #[.int .u64 rt, .int .u64 rr] ∧ Blk X (w.heap.size + 1) 139 #[.int .u64 lt, .int .u64 lr] ∧ Blk X (w.heap.size + 2) 87 #[.int .u64 (oat t.c 0), .int .u64 (oat t.c 1), .int .u64 (oat t.c 2), .int .u64 (oat t.c 3), .int .u64 (oat t.c 4)]) := by
    obtain ⟨X, h⟩ := HB.out
    exact ⟨X, hid h⟩
  rw [← HX.out.1]
  clear HB HK HH c0 c1 c2 c3 c4 c5
  obtain ⟨c0, c1, c2, c3, c4, c5⟩ := HX.out.2.2.2.1.cells
  have f3 := HX.out.2.2.2.1.blk.frozen 3
  have f4 := HX.out.2.2.2.1.blk.frozen 4
  have f5 := HX.out.2.2.2.1.blk.frozen 5
  have z0 : X.cell? ⟨w.heap.size, 0, none⟩ = some (.int .u64 rt) := HX.out.2.2.2.2.1.cell (i := 0) rfl
  have z1 : X.cell? ⟨w.heap.size + 1, 0, none⟩ = some (.int .u64 lt) := HX.out.2.2.2.2.2.1.cell (i := 0) rfl
  have z2 : X.cell? ⟨w.heap.size + 1, 1, none⟩ = some (.int .u64 lr) := HX.out.2.2.2.2.2.1.cell (i := 1) rfl
  have n0 : w.heap.size ≠ q := by have := HL.out; omega
  have n1 : w.heap.size + 1 ≠ q := by have := HL.out; omega
  go_region_held3 (fun W : World => W.cell? ⟨w.heap.size, 0, none⟩ = some (.int .u64 rt) ∧ W.cell? ⟨w.heap.size + 1, 0, none⟩ = some (.int .u64 lt) ∧ W.cell? ⟨w.heap.size + 1, 1, none⟩ = some (.int .u64 lr)) (first | assumption | (exact ⟨z0, z1, z2⟩) | (exact ⟨by simp [cell_other n0, z0], by simp [cell_other n1, z1], by simp [cell_other n1, z2]⟩) | go_keep) (fail)
  rename_i hHeld
  clear hHeld
  have HY : Hid (∀ Y, Y.heap = (((X.setCell ⟨q, 3, none⟩ (.int .u64 rt)).setCell ⟨q, 4, none⟩ (.int .u64 lt)).setCell ⟨q, 5, none⟩ (.int .u64 (uw (lr + 1)))).heap ∧ Y.os = X.os ∧ Y.tape = X.tape ∧ Y.output = X.output → Calls Try.prog 82 #[.iface 24 (.pointer (some ⟨b, 0, none⟩)), .int .u64 t.at_, .slice (some ⟨w.heap.size + 1 + 1, 0, none⟩) 5 5, .slice (some ⟨q, 1, none⟩) 5 5] Y fun r w' => r = .returned (.int .i64 e) ∧ Hid (WdAt w' b g c s1 ∧ Keeps (three b g q) w w' ∧ TrAt w' q { t with c := [oat t.c 0, oat t.c 1, rt, lt, uw (lr + 1)] }) ∧ w'.cell? ⟨q, 0, none⟩ = some (.int .u64 t.at_)) := by
    refine hid (fun Y hY => ?_)
    have kx := keeps_set3 X q 3 4 5 (.int .u64 rt) (.int .u64 lt) (.int .u64 (uw (lr + 1)))
    have ky : Keeps (fun k => k = q) X Y := kx.like hY.1 hY.2.1 hY.2.2.1 hY.2.2.2
    have hw : WdAt Y b g c s := HX.out.2.1.kept ky (fun e => HQ.out.1 e.symm) (fun e => HQ.out.2 e.symm)
    have ht0 := HX.out.2.2.2.1.sets hx hy (uw_isW (lr + 1)) (HT.out.wc 0) (HT.out.wc 1)
    have ht : TrAt Y q { t with c := [oat t.c 0, oat t.c 1, rt, lt, uw (lr + 1)] } := ⟨by unfold Blk; rw [hY.1]; exact ht0.blk, ht0.len, ht0.wat, ht0.wc⟩
    have hb2 : Blk Y (w.heap.size + 2) 87 (wordsV [oat t.c 0, oat t.c 1, oat t.c 2, oat t.c 3, oat t.c 4]).toArray := HX.out.2.2.2.2.2.2.kept ky (by have := HL.out; omega)
    have hl2 := hb2.lies 5
    have e5 : [oat t.c 0, oat t.c 1, oat t.c 2, oat t.c 3, oat t.c 4] = t.c := by
      have q := HT.out.len
      match h : t.c, q with
      | [a0, a1, a2, a3, a4], _ => rfl
    rw [e5] at hl2
    have hl3 : Lies Y (.slice (some ⟨w.heap.size + 1 + 1, 0, none⟩) 5 5) t.c := by rw [HT.out.len] at hl2; exact hl2
    refine (chg_r heq HT.out.wat HT.out.len ht.wc (by simp) hw hl3 ht.lies (slice_ne (by have := HL.out; omega) _ _ _) (slice_ne HQ.out _ _ _)).mono ?_
    rintro r w' ⟨rfl, h1, k1⟩
    have hq2 := ht.kept k1 (fun f => by rcases f with f | f; exact HQ.out.1 f; exact HQ.out.2 f)
    refine ⟨rfl, hid ⟨h1, ?_, hq2⟩, hq2.cells.1⟩
    exact ((HX.out.2.2.1.mono (T := three b g q) (fun _ _ f => f.elim)).trans (ky.mono (fun _ _ f => .inl f))).three k1
  have hc0 : ((((X.setCell ⟨q, 3, none⟩ (.int .u64 rt)).setCell ⟨q, 4, none⟩ (.int .u64 lt)).setCell ⟨q, 5, none⟩ (.int .u64 (IntKind.u64.wrap (lr + 1)))).drew).cell? ⟨q, 0, none⟩ = some (.int .u64 t.at_) := (HX.out.2.2.2.1.sets hx hy (uw_isW (lr + 1)) (HT.out.wc 0) (HT.out.wc 1)).cells.1
  clear c0 c1 c2 c3 c4 c5 f3 f4 f5 z0 z1 z2 n0 n1 heq HT HX
  go_wp2_with fail
  go_region_held3 (fun W : World => W.cell? ⟨q, 0, none⟩ = some (.int .u64 t.at_)) (first | assumption | (exact hc0) | go_keep) ((go_at_call 82; refine (HY.out _ (by exact ⟨rfl, rfl, rfl, rfl⟩)).mono ?_; rintro e_ w2 ⟨rfl, h2, hc2⟩))
  clear HY
  go_wp2_with fail
  go_ret
  exact ⟨rfl, h2.out.1, h2.out.2.1, h2.out.2.2⟩

theorem bind_any {b g c q : Nat} {t t' : Tr} {s s1 : Wd} {l r : Int × Int} {e : Int} (heq : Hid (binF t l r s = ((t', e), s1))) (hx : isW l.1) (hy : isW r.1) {w : World} (h : WdAt w b g c s) (ht : TrAt w q t) (hq : q ≠ b ∧ q ≠ g) :
    Calls Try.prog 80 #[.pointer (some ⟨q, 0, none⟩), .iface 24 (.pointer (some ⟨b, 0, none⟩)), .agg #[.int .u64 l.1, .int .u64 l.2], .agg #[.int .u64 r.1, .int .u64 r.2]] w fun a w' => a = .returned (.int .i64 e) ∧ WdAt w' b g c s1 ∧ Keeps (three b g q) w w' ∧ (e = 0 → TrAt w' q t') := by
  have hc : chgU t.at_ t.c (newC t l r) s = (((), e), s1) ∧ (e = 0 → t' = { t with c := newC t l r }) := by
    rcases bnd_cases heq.out with ⟨_, s2, h1, h2⟩ | ⟨_, h1, h2, h3⟩
    · unfold rtn at h2
      simp only [Prod.mk.injEq] at h2
      obtain ⟨⟨rfl, rfl⟩, rfl⟩ := h2
      exact ⟨h1, fun _ => rfl⟩
    · exact ⟨h3, fun q => absurd q h1⟩
  obtain ⟨h1, h2⟩ := hc
  unfold newC at h1 h2
  by_cases hlt : l.2 < r.2
  · rw [if_pos hlt] at h1
    simp only [if_pos hlt] at h2
    refine (bind_sw hy hx h ht hq hlt (hid h1)).mono ?_
    rintro a w' ⟨rfl, h3, h4, h5⟩
    exact ⟨rfl, h3, h4, fun he => by rw [h2 he]; exact h5⟩
  · rw [if_neg hlt] at h1
    simp only [if_neg hlt] at h2
    refine (bind_in hx hy h ht hq hlt (hid h1)).mono ?_
    rintro a w' ⟨rfl, h3, h4, h5⟩
    exact ⟨rfl, h3, h4, fun he => by rw [h2 he]; exact h5⟩
end Go.Proofs.Ytalopkllldnipaa
