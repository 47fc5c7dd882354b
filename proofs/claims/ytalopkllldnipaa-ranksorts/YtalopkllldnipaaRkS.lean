
/- Trees where they lie; the walks of treeAt, branchAt, to, rank, heapAt and become (layer 24). No statement of the seat is proved here. -/
import Derived.Test.YtalopkllldnipaaRkR
namespace Go.Proofs.Ytalopkllldnipaa
open Go.RowKit

theorem bnd_cases {α β : Type} {F : Wd → (α × Int) × Wd} {G : α → Wd → (β × Int) × Wd} {d y : β} {s s2 : Wd} {e : Int} (h : bnd F G d s = ((y, e), s2)) :
    (∃ x s1, F s = ((x, 0), s1) ∧ G x s1 = ((y, e), s2)) ∨ (∃ x, e ≠ 0 ∧ y = d ∧ F s = ((x, e), s2)) := by
  obtain ⟨⟨⟨x, f⟩, s1⟩, hF⟩ : ∃ r, F s = r := ⟨_, rfl⟩
  by_cases hf : f = 0
  · subst hf
    rw [bnd_ok hF] at h
    exact .inl ⟨x, s1, hF, h⟩
  · rw [bnd_no hF hf] at h
    injection h with h1 h2
    injection h1 with h3 h4
    subst h2 h3 h4
    exact .inr ⟨x, hf, rfl, hF⟩

@[go_sem] theorem run_store_float {P : Program} {w : World} {a : Addr} {m : Mode} (k : FloatKind) (n : Nat) : (store a (.float k n) m).run P w = stored P w a (.float k n) m := run_store P w a _ m rfl

/-- A tree's box. -/
def trV (t : Tr) : Array Value := #[.int .u64 t.at_, .int .u64 (oat t.c 0), .int .u64 (oat t.c 1), .int .u64 (oat t.c 2), .int .u64 (oat t.c 3), .int .u64 (oat t.c 4)]
structure TrAt (w : World) (q : Nat) (t : Tr) : Prop where
  blk : Blk w q 110 (trV t)
  len : t.c.length = 5
  wat : isW t.at_
  wc : ∀ i, isW (oat t.c i)
section
variable {w w' : World} {q : Nat} {t : Tr}
theorem TrAt.kept {S : Nat → Prop} (h : TrAt w q t) (k : Keeps S w w') (hq : ¬ S q) : TrAt w' q t := ⟨h.blk.kept k hq, h.len, h.wat, h.wc⟩
theorem TrAt.lt (h : TrAt w q t) : q < w.heap.size := h.blk.lt
theorem TrAt.cells (h : TrAt w q t) : w.cell? ⟨q, 0, none⟩ = some (.int .u64 t.at_) ∧ w.cell? ⟨q, 1, none⟩ = some (.int .u64 (oat t.c 0)) ∧ w.cell? ⟨q, 2, none⟩ = some (.int .u64 (oat t.c 1)) ∧ w.cell? ⟨q, 3, none⟩ = some (.int .u64 (oat t.c 2)) ∧ w.cell? ⟨q, 4, none⟩ = some (.int .u64 (oat t.c 3)) ∧ w.cell? ⟨q, 5, none⟩ = some (.int .u64 (oat t.c 4)) :=
  ⟨h.blk.cell rfl, h.blk.cell rfl, h.blk.cell rfl, h.blk.cell rfl, h.blk.cell rfl, h.blk.cell rfl⟩
theorem TrAt.lies (h : TrAt w q t) : Lies w (.slice (some ⟨q, 1, none⟩) 5 5) t.c := by
  refine ⟨some ⟨q, 1, none⟩, 5, by rw [h.len], fun i hi => ⟨q, 1, rfl, ?_⟩⟩
  rw [h.len] at hi
  have : i = 0 ∨ i = 1 ∨ i = 2 ∨ i = 3 ∨ i = 4 := by omega
  rcases this with rfl | rfl | rfl | rfl | rfl <;> exact h.blk.cell rfl
end
theorem trV_sets {a : Int} {l : List Int} (hl : l.length = 5) : setsV #[.int .u64 a, .int .u64 0, .int .u64 0, .int .u64 0, .int .u64 0, .int .u64 0] 1 l = trV ⟨a, l, false⟩ := by
  match l, hl with
  | [x0, x1, x2, x3, x4], _ => rfl
theorem setsV_below : ∀ (l : List Int) (cur : Array Value) (o i : Nat), i < o → (setsV cur o l)[i]? = cur[i]?
  | [], _, _, _, _ => rfl
  | y :: l, cur, o, i, h => by
    show (setsV (cur.setIfInBounds o (.int .u64 y)) (o + 1) l)[i]? = _
    rw [setsV_below l _ (o + 1) i (by omega), Array.getElem?_setIfInBounds, if_neg (by omega)]
theorem gets_fact {s s1 : Wd} {a e : Int} {n : Nat} {l : List Int} (h : getsF a n s = ((l, e), s1)) (hs : s.Ok) : s1.Ok ∧ (e = 0 → l.length = n ∧ ∀ i, isW (oat l i)) := by
  have q := getK_oks a hs n
  have h : getK a s n = ((l, e), s1) := h
  rw [h] at q
  exact ⟨q.1, fun he => ⟨(q.2 he).1, fun i => oat_isW (q.2 he).2 i⟩⟩
theorem kget_r {b g c : Nat} {s s1 : Wd} {a e : Int} {l : List Int} {k o n cp : Nat} {ty : TypeId} {cur : Array Value} (heq : Hid (getsF a n s = ((l, e), s1))) (ha : isW a) (hn : n ≤ 5) (ho : o + n ≤ cur.size) {w : World} (h : WdAt w b g c s) (hk : Blk w k ty cur) (ne : k ≠ b ∧ k ≠ g) :
    Calls Try.prog 65 #[.iface 24 (.pointer (some ⟨b, 0, none⟩)), .int .u64 a, .slice (some ⟨k, o, none⟩) n cp] w fun r w' => r = .returned (.int .i64 e) ∧ WdAt w' b g c s1 ∧ Keeps (three b g k) w w' ∧ ∃ l', Blk w' k ty (setsV cur o l') ∧ (e = 0 → l' = l) := by
  refine (kget_any b g c s a ha k o n cp ty cur hn ho w h hk ne).mono ?_
  have he : s.gets a n = ((l, e), s1) := heq.out
  rw [he]
  rintro r w' ⟨rfl, h1, k1, l', h2, h3⟩
  exact ⟨rfl, h1, k1, l', h2, h3⟩

/-- A tree that was made since, or none. -/
def PtAt (w : World) (base : Nat) (po : Option Addr) (t : Option Tr) : Prop := match t with
  | none => po = none
  | some t => ∃ q, base ≤ q ∧ po = some ⟨q, 0, none⟩ ∧ TrAt w q t
theorem PtAt.kept {w w' : World} {base : Nat} {po : Option Addr} {t : Option Tr} {S : Nat → Prop} (h : PtAt w base po t) (k : Keeps S w w') (hS : ∀ i, S i → i < base) : PtAt w' base po t := by
  cases t with
  | none => exact h
  | some t =>
    obtain ⟨q, h1, h2, h3⟩ := h
    exact ⟨q, h1, h2, h3.kept k (fun e => by have := hS q e; omega)⟩

set_option maxHeartbeats 2000000 in
theorem tree_any {b g c : Nat} {s s1 : Wd} {x e : Int} {t : Option Tr} (heq : Hid (treF x s = ((t, e), s1))) (hx : isW x) {w : World} (h : WdAt w b g c s) :
    Calls Try.prog 52 #[.iface 24 (.pointer (some ⟨b, 0, none⟩)), .int .u64 x] w fun r w' => ∃ po, r = .returned (.tuple #[.pointer po, .int .i64 e]) ∧ WdAt w' b g c s1 ∧ Keeps (two b g) w w' ∧ (e = 0 → PtAt w' w.heap.size po t) := by
  by_cases hx0 : x = 0
  · subst hx0
    have q : treF 0 s = ((none, 0), s) := rfl
    rw [q] at heq
    have q2 := heq.out
    simp only [Prod.mk.injEq] at q2
    obtain ⟨⟨rfl, rfl⟩, rfl⟩ := q2
    have HH := hid h
    clear h heq q
    go_enter Try.func52, Try.ntmps52
    go_wp2_with fail
    go_ret2
    exact ⟨_, rfl, HH.out, Keeps.refl _ _, fun _ => rfl⟩
  · have oks := h.ok
    have q : treF x s = bnd (getsF (nodeA x) 5) (fun l => rtn (some ⟨nodeA x, l, false⟩)) none s := by unfold treF; rw [if_neg hx0]
    have q2 := heq.out
    rw [q] at q2
    clear q heq
    have hwn : isW (nodeA x) := uw_isW _
    have HT : Hid (∃ l, getsF (nodeA x) 5 s = ((l, e), s1) ∧ (e = 0 → t = some ⟨nodeA x, l, false⟩)) := by
      rcases bnd_cases q2 with ⟨l, s2, h1, h2⟩ | ⟨l, h1, h2, h3⟩
      · unfold rtn at h2
        simp only [Prod.mk.injEq] at h2
        obtain ⟨⟨rfl, rfl⟩, rfl⟩ := h2
        exact hid ⟨l, h1, fun _ => rfl⟩
      · exact hid ⟨l, h3, fun q => absurd q h1⟩
    clear q2
    have HH := hid h
    have hsz : b < w.heap.size ∧ g < w.heap.size := ⟨h.ltb, h.ltg⟩
    have HL := hid hsz
    clear h hsz
    go_enter Try.func52, Try.ntmps52
    go_wp2_with (go_at_call 66; refine (nodeOf_any x _).mono ?_; rintro e_ w_ ⟨rfl, hw_⟩; subst w_)
    have hb0 : Blk (w.alloc (.cells #[.int .u64 (nodeA x), .int .u64 0, .int .u64 0, .int .u64 0, .int .u64 0, .int .u64 0] 110)) w.heap.size 110 #[.int .u64 (nodeA x), .int .u64 0, .int .u64 0, .int .u64 0, .int .u64 0, .int .u64 0] := alloc_block w _
    have hc0 := hb0.cell (i := 0) rfl
    have HC : Hid (∀ X : World, X.heap = (w.alloc (.cells #[.int .u64 (nodeA x), .int .u64 0, .int .u64 0, .int .u64 0, .int .u64 0, .int .u64 0] 110)).heap ∧ X.os = w.os ∧ X.tape = w.tape ∧ X.output = w.output → Calls Try.prog 65 #[.iface 24 (.pointer (some ⟨b, 0, none⟩)), .int .u64 (nodeA x), .slice (some ⟨w.heap.size, 1, none⟩) 5 5] X fun r w' => r = .returned (.int .i64 e) ∧ Hid (WdAt w' b g c s1) ∧ Hid (Keeps (two b g) w w') ∧ Hid (e = 0 → PtAt w' w.heap.size (some ⟨w.heap.size, 0, none⟩) t) ∧ w'.cell? ⟨w.heap.size, 0, none⟩ = some (.int .u64 (nodeA x))) := by
      obtain ⟨l, h1, h2⟩ := HT.out
      refine hid (fun X hX => ?_)
      have kx : Keeps (fun _ => False) w X := ((Keeps.refl _ w).alloc _).like hX.1 hX.2.1 hX.2.2.1 hX.2.2.2
      have hbx : Blk X w.heap.size 110 #[.int .u64 (nodeA x), .int .u64 0, .int .u64 0, .int .u64 0, .int .u64 0, .int .u64 0] := by unfold Blk; rw [hX.1]; exact hb0
      refine (kget_r (hid h1) hwn (by decide) (by simp) (HH.out.kept kx (fun f => f) (fun f => f)) hbx (by have := HL.out; omega)).mono ?_
      rintro r w' ⟨rfl, h3, k3, l', h4, h5⟩
      refine ⟨rfl, hid h3, hid ((kx.mono (fun _ _ f => f.elim)).step k3 (fun i hi hq => ?_)), hid (fun he => ?_), h4.cell (by rw [setsV_below _ _ _ _ (by decide)]; rfl)⟩
      · rcases hq with hq | hq
        · omega
        · exact hq
      · obtain ⟨hl, hw⟩ := (gets_fact h1 oks).2 he
        have q := h4
        rw [h5 he, trV_sets hl] at q
        rw [h2 he]
        exact ⟨_, Nat.le_refl _, rfl, q, hl, hwn, hw⟩
    clear HT HH HL hb0
    go_region_held3 (fun W : World => W.cell? ⟨w.heap.size, 0, none⟩ = some (.int .u64 (nodeA x))) (first | assumption | (exact hc0) | go_keep) ((go_at_call 65; refine (HC.out _ (by exact ⟨rfl, rfl, rfl, rfl⟩)).mono ?_; rintro e_ w2 ⟨rfl, h2, k2, p2, hc2⟩))
    clear HC
    by_cases he : e = 0
    · subst he
      go_wp2_with fail
      go_ret2
      exact ⟨_, rfl, h2.out, k2.out, p2.out (by simp)⟩
    · go_wp2_with fail
      go_ret2
      exact ⟨_, rfl, h2.out, k2.out, fun q => absurd q he⟩

theorem results_ct {fn : Func} {p u : Tmp} {ty : TypeId} (h : fn.results = #[.cell p ty, .tmp u]) (tmps : Array Value) (P : Program) (w : World) :
    (results fn tmps).run P w = ((asAddr (tmps.getD p undef)).run P w).andThen fun a w₁ => ((loadVar ty a).run P w₁).andThen fun x w₂ => .ok (.tuple #[x, tmps.getD u undef]) w₂ := by
  simp only [results, h]
  simp [Sem.run_bind, Result.andThen]
theorem size_branch : (Try.prog.info? 139).map (·.size) = some 2 := by kernel_rfl
theorem size_heap : (Try.prog.info? 111).map (·.size) = some 2 := by kernel_rfl
theorem branch_ret {fn : Func} {p u : Tmp} (h : fn.results = #[.cell p 139, .tmp u]) (tmps : Array Value) (w : World) (q : Nat) (x y : Value) (hb : Blk w q 139 #[x, y])
    (hp : tmps.getD p undef = .pointer (some ⟨q, 0, none⟩)) : (results fn tmps).run Try.prog w = .ok (.tuple #[.agg #[x, y], tmps.getD u undef]) w := by
  rw [results_ct h, hp]
  simp [asAddr, run_loadVar_row w q 139 139 _ (0, 0) _ hb Try.underlying139 rfl (by rw [size_branch]; rfl), Result.andThen]
theorem heap_ret {fn : Func} {p u : Tmp} (h : fn.results = #[.cell p 111, .tmp u]) (tmps : Array Value) (w : World) (q : Nat) (x y : Value) (hb : Blk w q 111 #[x, y])
    (hp : tmps.getD p undef = .pointer (some ⟨q, 0, none⟩)) : (results fn tmps).run Try.prog w = .ok (.tuple #[.agg #[x, y], tmps.getD u undef]) w := by
  rw [results_ct h, hp]
  simp [asAddr, run_loadVar_row w q 111 111 _ (0, 0) _ hb Try.underlying111 rfl (by rw [size_heap]; rfl), Result.andThen]
theorem size_ranked : (Try.prog.info? 40).map (·.size) = some 2 := by kernel_rfl
theorem ranked_ret {fn : Func} {p u : Tmp} (h : fn.results = #[.cell p 40, .tmp u]) (tmps : Array Value) (w : World) (q : Nat) (x y : Value) (hb : Blk w q 40 #[x, y])
    (hp : tmps.getD p undef = .pointer (some ⟨q, 0, none⟩)) : (results fn tmps).run Try.prog w = .ok (.tuple #[.agg #[x, y], tmps.getD u undef]) w := by
  rw [results_ct h, hp]
  simp [asAddr, run_loadVar_row w q 40 40 _ (0, 0) _ hb Try.underlying40 rfl (by rw [size_ranked]; rfl), Result.andThen]
theorem blk_new (w : World) (ty : TypeId) (cur : Array Value) : Blk (w.alloc (.cells cur ty)) w.heap.size ty cur := alloc_block w _
theorem keeps_new (w : World) (o : Obj) : Keeps (fun _ => False) w (w.alloc o) := (Keeps.refl _ w).alloc o
theorem keeps_set (w : World) (q i : Nat) (v : Value) : Keeps (fun k => k = q) w (w.setCell ⟨q, i, none⟩ v) := (Keeps.refl (fun k => k = q) w).setCell (p := ⟨q, i, none⟩) (.inr rfl) _
theorem Blk.set2 {w : World} {q : Nat} {ty : TypeId} {x y : Value} (h : Blk w q ty #[x, y]) (a b : Value) : Blk ((w.setCell ⟨q, 0, none⟩ a).setCell ⟨q, 1, none⟩ b) q ty #[a, b] := (h.set 0 a).set 1 b
theorem keeps_set2 (w : World) (q : Nat) (a b : Value) : Keeps (fun k => k = q) w ((w.setCell ⟨q, 0, none⟩ a).setCell ⟨q, 1, none⟩ b) := (keeps_set w q 0 a).trans (keeps_set _ q 1 b)

set_option maxHeartbeats 2000000 in
theorem branch_any {b g c : Nat} {s s1 : Wd} {x e : Int} {p : Int × Int} (heq : Hid (braF x s = ((p, e), s1))) {w : World} (h : WdAt w b g c s) :
    Calls Try.prog 79 #[.iface 24 (.pointer (some ⟨b, 0, none⟩)), .int .u64 x] w fun r w' => r = .returned (.tuple #[.agg #[.int .u64 p.1, .int .u64 p.2], .int .i64 e]) ∧ WdAt w' b g c s1 ∧ Keeps (two b g) w w' := by
  have mg := meth_get b
  have ng := nil_get b
  by_cases hx0 : x = 0
  · subst hx0
    have q : braF 0 s = (((0, 0), 0), s) := rfl
    rw [q] at heq
    have q2 := heq.out
    simp only [Prod.mk.injEq] at q2
    obtain ⟨⟨rfl, rfl⟩, rfl⟩ := q2
    have HH := hid h
    clear h heq q
    go_enter Try.func79, Try.ntmps79
    go_wp2_with fail
    refine bodyPost_ret (branch_ret rfl _ _ w.heap.size _ _ (blk_new w _ _) rfl) rfl ?_
    have kn := keeps_new w (.cells #[.int .u64 0, .int .u64 0] 139)
    exact ⟨rfl, HH.out.kept kn (fun f => f) (fun f => f), kn.mono (fun _ _ f => f.elim)⟩
  · have q : braF x s = bnd (fun s => s.get (uw (nodeA x + 4))) (fun r => rtn (x, r)) (0, 0) s := by unfold braF; rw [if_neg hx0]
    have q2 := heq.out
    rw [q] at q2
    clear q heq
    have HH := hid h
    have hsz : b < w.heap.size ∧ g < w.heap.size := ⟨h.ltb, h.ltg⟩
    have HL := hid hsz
    clear h hsz
    have HZ : Hid (∃ y, s.get (uw (nodeA x + 4)) = ((y, e), s1) ∧ (e = 0 → p = (x, y)) ∧ (e ≠ 0 → p = (0, 0))) := by
      rcases bnd_cases q2 with ⟨l, s2, h1, h2⟩ | ⟨l, h1, h2, h3⟩
      · unfold rtn at h2
        simp only [Prod.mk.injEq] at h2
        obtain ⟨⟨rfl, rfl⟩, rfl⟩ := h2
        exact hid ⟨l, h1, fun _ => rfl, fun q => absurd rfl q⟩
      · exact hid ⟨l, h3, fun q => absurd q h1, fun _ => h2⟩
    clear q2
    obtain ⟨y, hy⟩ : ∃ y, Hid (s.get (uw (nodeA x + 4)) = ((y, e), s1) ∧ (e = 0 → p = (x, y)) ∧ (e ≠ 0 → p = (0, 0))) := by obtain ⟨y, h⟩ := HZ.out; exact ⟨y, h⟩
    have HC : Hid (∀ X : World, X.heap = (w.alloc (.cells #[.int .u64 0, .int .u64 0] 139)).heap ∧ X.os = w.os ∧ X.tape = w.tape ∧ X.output = w.output → Calls Try.prog 119 #[.pointer (some ⟨b, 0, none⟩), .int .u64 (uw (nodeA x + 4))] X fun r w' => r = .returned (.tuple #[.int .u64 y, .int .i64 e]) ∧ Hid (WdAt w' b g c s1 ∧ Keeps (two b g) w w' ∧ Blk w' w.heap.size 139 #[.int .u64 0, .int .u64 0])) := by
      refine hid (fun X hX => ?_)
      have kx : Keeps (fun _ => False) w X := ((Keeps.refl _ w).alloc _).like hX.1 hX.2.1 hX.2.2.1 hX.2.2.2
      have hbx : Blk X w.heap.size 139 #[.int .u64 0, .int .u64 0] := by unfold Blk; rw [hX.1]; exact blk_new w _ _
      refine (tget_r (hid hy.out.1) (uw_isW _) (HH.out.kept kx (fun f => f) (fun f => f))).mono ?_
      rintro r w' ⟨rfl, h3, k3⟩
      exact ⟨rfl, hid ⟨h3, (kx.mono (fun _ _ f => f.elim)).step k3 (fun _ _ q => q), hbx.kept k3 (fun q => by have := HL.out; rcases q with q | q <;> omega)⟩⟩
    clear HZ HH
    go_enter Try.func79, Try.ntmps79
    go_wp2_with fail
    go_region_held3 (fun _ : World => True) (trivial) ((first | (go_at_call 66; refine (nodeOf_any x _).mono ?_; rintro e_ w_ ⟨rfl, hw_⟩; subst w_) | (go_at_call 119; refine (HC.out _ (by exact ⟨rfl, rfl, rfl, rfl⟩)).mono ?_; rintro e_ w1 ⟨rfl, h1⟩)))
    all_goals clear HC
    all_goals have c0 := h1.out.2.2.cell (i := 0) rfl
    all_goals have c1 := h1.out.2.2.cell (i := 1) rfl
    all_goals have f0 := h1.out.2.2.frozen 0
    all_goals have f1 := h1.out.2.2.frozen 1
    all_goals
      by_cases he : e = 0
      · subst he
        go_wp2_with fail
        refine bodyPost_ret (branch_ret rfl _ _ w.heap.size _ _ (h1.out.2.2.set2 _ _) rfl) rfl ?_
        have k2 := keeps_set2 w1 w.heap.size (.int .u64 x) (.int .u64 y)
        have hb := HL.out
        rw [hy.out.2.1 trivial]
        exact ⟨rfl, h1.out.1.kept k2 (by omega) (by omega), h1.out.2.1.step k2 (fun i hi q => by omega)⟩
      · go_wp2_with fail
        refine bodyPost_ret (branch_ret rfl _ _ w.heap.size _ _ (h1.out.2.2.set2 _ _) rfl) rfl ?_
        have k2 := keeps_set2 w1 w.heap.size (.int .u64 0) (.int .u64 0)
        have hb := HL.out
        rw [hy.out.2.2 he]
        exact ⟨rfl, h1.out.1.kept k2 (by omega) (by omega), h1.out.2.1.step k2 (fun i hi q => by omega)⟩

theorem wrap_k (x : Int) (k : Nat) : IntKind.u64.wrap (x + k) = uw (x + k) := rfl
set_option maxHeartbeats 2000000 in
theorem to_any {q : Nat} {t : Tr} {w : World} (h : TrAt w q t) : Calls Try.prog 58 #[.pointer (some ⟨q, 0, none⟩)] w fun r w' => r = .returned (.int .u64 (uw (t.at_ + 1))) ∧ w' = w := by
  obtain ⟨c0, c1, c2, c3, c4, c5⟩ := h.cells
  clear h c1 c2 c3 c4 c5
  go_enter Try.func58, Try.ntmps58
  go_wp2_with fail
  go_ret
  exact ⟨rfl, rfl⟩
set_option maxHeartbeats 2000000 in
theorem to_none (w : World) : Calls Try.prog 58 #[.pointer none] w fun r w' => r = .returned (.int .u64 0) ∧ w' = w := by
  go_enter Try.func58, Try.ntmps58
  go_wp2_with fail
  go_ret
  exact ⟨rfl, rfl⟩
set_option maxHeartbeats 2000000 in
theorem rk_any {q : Nat} {t : Tr} {w : World} (h : TrAt w q t) : Calls Try.prog 81 #[.pointer (some ⟨q, 0, none⟩)] w fun r w' => r = .returned (.int .u64 (oat t.c 4)) ∧ w' = w := by
  obtain ⟨c0, c1, c2, c3, c4, c5⟩ := h.cells
  clear h c1 c2 c3 c4 c0
  go_enter Try.func81, Try.ntmps81
  go_wp2_with fail
  go_ret
  exact ⟨rfl, rfl⟩
set_option maxHeartbeats 2000000 in
theorem rk_none (w : World) : Calls Try.prog 81 #[.pointer none] w fun r w' => r = .returned (.int .u64 0) ∧ w' = w := by
  go_enter Try.func81, Try.ntmps81
  go_wp2_with fail
  go_ret
  exact ⟨rfl, rfl⟩
theorem toT_any {base : Nat} {po : Option Addr} {t : Option Tr} {w : World} (h : PtAt w base po t) : Calls Try.prog 58 #[.pointer po] w fun r w' => r = .returned (.int .u64 (toT t)) ∧ w' = w := by
  cases t with
  | none => rw [show po = none from h]; exact to_none w
  | some t => obtain ⟨q, _, rfl, h2⟩ := h; exact to_any h2
theorem rkT_any {base : Nat} {po : Option Addr} {t : Option Tr} {w : World} (h : PtAt w base po t) : Calls Try.prog 81 #[.pointer po] w fun r w' => r = .returned (.int .u64 (rkT t)) ∧ w' = w := by
  cases t with
  | none => rw [show po = none from h]; exact rk_none w
  | some t => obtain ⟨q, _, rfl, h2⟩ := h; exact rk_any h2

set_option maxHeartbeats 2000000 in
/-- A heap's own cells: those that lie there, and whether they may. -/
theorem heap_any {b g c : Nat} {s s1 : Wd} {x e : Int} {p : Int × Int} (heq : Hid (hepF x s = ((p, e), s1))) (hx : isW x) {w : World} (h : WdAt w b g c s) :
    Calls Try.prog 51 #[.iface 24 (.pointer (some ⟨b, 0, none⟩)), .int .u64 x] w fun r w' => r = .returned (.tuple #[.agg #[.int .u64 p.1, .int .u64 p.2], .int .i64 e]) ∧ WdAt w' b g c s1 ∧ Keeps (two b g) w w' := by
  have oks := h.ok
  have hsz : b < w.heap.size ∧ g < w.heap.size := ⟨h.ltb, h.ltg⟩
  have HL := hid hsz
  have HH := hid h
  clear h hsz
  have HZ : Hid ((∃ x0 x1, getsF x 2 s = (([x0, x1], 0), s1) ∧ ((decide (x0 = 0) = decide (x1 = 0) ∧ p = (x0, x1) ∧ e = 0) ∨ (decide (x0 = 0) ≠ decide (x1 = 0) ∧ p = (0, 0) ∧ e = 340))) ∨ (∃ l, e ≠ 0 ∧ p = (0, 0) ∧ getsF x 2 s = ((l, e), s1))) := by
    rcases bnd_cases heq.out with ⟨l, s2, h1, h2⟩ | ⟨l, h1, h2, h3⟩
    · have hl := ((gets_fact h1 oks).2 rfl).1
      match l, hl with
      | [x0, x1], _ =>
        have h2 : (if decide (x0 = 0) ≠ decide (x1 = 0) then err (0, 0) 340 else rtn (x0, x1)) s2 = ((p, e), s1) := h2
        by_cases hd : decide (x0 = 0) ≠ decide (x1 = 0)
        · rw [if_pos hd] at h2
          unfold err at h2
          simp only [Prod.mk.injEq] at h2
          obtain ⟨⟨rfl, rfl⟩, rfl⟩ := h2
          exact hid (.inl ⟨x0, x1, h1, .inr ⟨hd, rfl, rfl⟩⟩)
        · rw [if_neg hd] at h2
          unfold rtn at h2
          simp only [Prod.mk.injEq] at h2
          obtain ⟨⟨rfl, rfl⟩, rfl⟩ := h2
          exact hid (.inl ⟨x0, x1, h1, .inl ⟨Classical.not_not.1 hd, rfl, rfl⟩⟩)
    · exact hid (.inr ⟨l, h1, h2, h3⟩)
  clear heq
  have kn : Keeps (fun _ => False) w ((w.alloc (.cells #[.int .u64 0, .int .u64 0] 111)).alloc (.cells #[.int .u64 0, .int .u64 0] 111)) := (keeps_new w _).alloc _
  have hB1 : Blk ((w.alloc (.cells #[.int .u64 0, .int .u64 0] 111)).alloc (.cells #[.int .u64 0, .int .u64 0] 111)) w.heap.size 111 #[.int .u64 0, .int .u64 0] := (blk_new w _ _).kept (keeps_new _ _) (fun f => f)
  have hB2 : Blk ((w.alloc (.cells #[.int .u64 0, .int .u64 0] 111)).alloc (.cells #[.int .u64 0, .int .u64 0] 111)) (w.heap.size + 1) 111 #[.int .u64 0, .int .u64 0] := by
    have q := blk_new (w.alloc (.cells #[.int .u64 0, .int .u64 0] 111)) 111 #[.int .u64 0, .int .u64 0]
    simpa using q
  rcases HZ.out with ⟨x0, x1, h1, h2⟩ | ⟨l, h1, h2, h3⟩
  · have HE := hid h1
    have H2 := hid h2
    clear HZ h1 h2
    go_enter Try.func51, Try.ntmps51
    go_wp2_with fail
    refine (kget_r (o := 0) (cur := #[.int .u64 0, .int .u64 0]) HE hx (by decide) (by simp) (HH.out.kept kn (fun f => f) (fun f => f)) hB2 (by have := HL.out; omega)).mono ?_
    rintro r w1 ⟨rfl, h3, k3, l', h4, h5⟩
    have h5 := h5 rfl
    subst h5
    have h4 : Blk w1 (w.heap.size + 1) 111 #[.int .u64 x0, .int .u64 x1] := h4
    have HF : Hid (WdAt w1 b g c s1 ∧ Keeps (two b g) w w1 ∧ Blk w1 w.heap.size 111 #[.int .u64 0, .int .u64 0]) := by
      have hb := HL.out
      refine hid ⟨h3, (kn.mono (fun _ _ f => f.elim)).step k3 (fun i hi q => ?_), hB1.kept k3 (fun q => ?_)⟩
      · rcases q with q | q
        · omega
        · exact q
      · rcases q with q | q | q <;> omega
    have c0 := h4.cell (i := 0) rfl
    have c1 := h4.cell (i := 1) rfl
    have d0 := HF.out.2.2.cell (i := 0) rfl
    have d1 := HF.out.2.2.cell (i := 1) rfl
    have f0 := HF.out.2.2.frozen 0
    have f1 := HF.out.2.2.frozen 1
    clear h3 k3 kn hB1 hB2 HE HH
    go_wp2_with fail
    · rename_i hcond
      rcases H2.out with ⟨hd, rfl, rfl⟩ | ⟨hd, rfl, rfl⟩
      · exfalso
        have hcond : ¬ ((x0 == 0) = (x1 == 0)) := by simpa using hcond
        exact hcond hd
      · refine bodyPost_ret (heap_ret rfl _ _ w.heap.size _ _ (HF.out.2.2.set2 _ _) rfl) rfl ?_
        have k2 := keeps_set2 w1 w.heap.size (.int .u64 0) (.int .u64 0)
        have hb := HL.out
        exact ⟨rfl, HF.out.1.kept k2 (by omega) (by omega), HF.out.2.1.step k2 (fun i hi q => by omega)⟩
    · rename_i hcond
      rcases H2.out with ⟨hd, rfl, rfl⟩ | ⟨hd, rfl, rfl⟩
      · refine bodyPost_ret (heap_ret rfl _ _ w.heap.size _ _ (HF.out.2.2.set2 _ _) rfl) rfl ?_
        have k2 := keeps_set2 w1 w.heap.size (.int .u64 x0) (.int .u64 x1)
        have hb := HL.out
        exact ⟨rfl, HF.out.1.kept k2 (by omega) (by omega), HF.out.2.1.step k2 (fun i hi q => by omega)⟩
      · exfalso
        have hcond : (x0 == 0) = (x1 == 0) := by simpa using hcond
        exact hd hcond
  · subst h2
    have HE := hid h3
    clear HZ h3
    go_enter Try.func51, Try.ntmps51
    go_wp2_with fail
    refine (kget_r (o := 0) (cur := #[.int .u64 0, .int .u64 0]) HE hx (by decide) (by simp) (HH.out.kept kn (fun f => f) (fun f => f)) hB2 (by have := HL.out; omega)).mono ?_
    rintro r w1 ⟨rfl, h3, k3, l', h4, h5⟩
    have HF : Hid (WdAt w1 b g c s1 ∧ Keeps (two b g) w w1 ∧ Blk w1 w.heap.size 111 #[.int .u64 0, .int .u64 0]) := by
      have hb := HL.out
      refine hid ⟨h3, (kn.mono (fun _ _ f => f.elim)).step k3 (fun i hi q => ?_), hB1.kept k3 (fun q => ?_)⟩
      · rcases q with q | q
        · omega
        · exact q
      · rcases q with q | q | q <;> omega
    have d0 := HF.out.2.2.cell (i := 0) rfl
    have d1 := HF.out.2.2.cell (i := 1) rfl
    have f0 := HF.out.2.2.frozen 0
    have f1 := HF.out.2.2.frozen 1
    clear h3 k3 kn hB1 hB2 HE HH h4 h5
    go_wp2_with fail
    refine bodyPost_ret (heap_ret rfl _ _ w.heap.size _ _ (HF.out.2.2.set2 _ _) rfl) rfl ?_
    have k2 := keeps_set2 w1 w.heap.size (.int .u64 0) (.int .u64 0)
    have hb := HL.out
    exact ⟨rfl, HF.out.1.kept k2 (by omega) (by omega), HF.out.2.1.step k2 (fun i hi q => by omega)⟩

set_option maxHeartbeats 2000000 in
/-- An entry by its two words. -/
theorem ranked_any (k x : Int) (hk : isW k) (w : World) :
    Calls Try.prog 50 #[.int .u64 k, .int .u64 x] w fun r w' => r = .returned (.tuple #[if reK k = true then .agg #[.float .f64 (reB k), .int .u64 x] else .agg #[.float .f64 0, .int .u64 0], .int .i64 (if reK k = true then 0 else 340)]) ∧ Keeps (fun _ => False) w w' := by
  have hR : Hid (∀ X : World, Calls Try.prog 75 #[.int .u64 k] X fun e w' => e = .returned (.tuple #[.float .f64 (reB k), .bool (reK k)]) ∧ w' = X) := hid (fun X => word_real k X hk.1 hk.2)
  generalize reB k = rb at hR ⊢
  generalize reK k = rk at hR ⊢
  have hB : Blk (w.alloc (.cells #[.float .f64 0, .int .u64 0] 40)) w.heap.size 40 #[.float .f64 0, .int .u64 0] := blk_new w _ _
  have d0 : (w.alloc (.cells #[.float .f64 0, .int .u64 0] 40)).cell? ⟨w.heap.size, 0, none⟩ = some (.float .f64 0) := hB.cell (i := 0) rfl
  have d1 : (w.alloc (.cells #[.float .f64 0, .int .u64 0] 40)).cell? ⟨w.heap.size, 1, none⟩ = some (.int .u64 0) := hB.cell (i := 1) rfl
  have f0 := hB.frozen 0
  have f1 := hB.frozen 1
  clear hB
  cases rk
  · go_enter Try.func50, Try.ntmps50
    go_wp2_with fail
    refine (hR.out _).mono ?_
    rintro r w1 ⟨rfl, hw1⟩
    subst w1
    go_wp2_with fail
    refine bodyPost_ret (ranked_ret rfl _ _ w.heap.size _ _ (blk_new w _ _) rfl) rfl ?_
    exact ⟨rfl, keeps_new w _⟩
  · go_enter Try.func50, Try.ntmps50
    go_wp2_with fail
    refine (hR.out _).mono ?_
    rintro r w1 ⟨rfl, hw1⟩
    subst w1
    go_wp2_with fail
    refine bodyPost_ret (ranked_ret rfl _ _ w.heap.size _ _ (blk_new w _ _) rfl) rfl ?_
    exact ⟨rfl, keeps_new w _⟩
end Go.Proofs.Ytalopkllldnipaa
