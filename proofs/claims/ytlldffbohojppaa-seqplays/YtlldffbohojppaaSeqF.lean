
/- The clocks that a play of SeqPlays has in memory: the two that go on, those that were put aside, and the rows that name them. No statement of the seat is proved here. -/
import Derived.Test.YtlldffbohojppaaSeqE
import Derived.Deep.Upon
import Derived.Laws.AppendOwn
namespace Go.Proofs.Ytlldffbohojppaa
open Go.RowKit

structure Clk where
  p : Nat
  b : Nat
  c : Nat
  x : Int
  st : Int
def Clk.At (w : World) (d : Clk) : Prop := ClkAt w d.p d.b d.c d.x d.st
def Clk.own (d : Clk) : Nat → Prop := own3 d.p d.b d.c
def Clk.apart (d e : Clk) : Prop := ∀ k, d.own k → ¬ e.own k
theorem Clk.At.lt {w : World} {d : Clk} (h : d.At w) {k : Nat} (hk : d.own k) : k < w.heap.size := by
  rcases hk with rfl | rfl | rfl
  · exact ClkAt.ltp h
  · exact ClkAt.ltb h
  · exact ClkAt.ltc h
theorem Clk.At.kept {S : Nat → Prop} {w w' : World} {d : Clk} (h : d.At w) (k : Keeps S w w') (hs : ∀ i, d.own i → ¬ S i) : d.At w' := ClkAt.kept h k hs
theorem Clk.apart.symm {d e : Clk} (h : d.apart e) : e.apart d := fun k hk hd => h k hd hk

/-- A function turned at one place. -/
def upf {α : Type} (f : Nat → α) (i : Nat) (v : α) : Nat → α := fun j => if j = i then v else f j
theorem upf_same {α : Type} (f : Nat → α) (i : Nat) (v : α) : upf f i v i = v := if_pos rfl
theorem upf_other {α : Type} (f : Nat → α) {i j : Nat} (v : α) (h : j ≠ i) : upf f i v j = f j := if_neg h

/-- Two clocks that go on, and those that were put aside, all apart from one another and from X. -/
structure Fam (w : World) (X : Nat → Prop) (f : Nat → Clk) (L : List Clk) : Prop where
  c : ∀ i, i < 2 → (f i).At w
  l : ∀ d ∈ L, d.At w
  cc : ∀ i j, i < 2 → j < 2 → i ≠ j → (f i).apart (f j)
  cl : ∀ i, i < 2 → ∀ d ∈ L, (f i).apart d
  ll : L.Pairwise Clk.apart
  cx : ∀ i, i < 2 → ∀ k, (f i).own k → ¬ X k
  lx : ∀ d ∈ L, ∀ k, d.own k → ¬ X k

section
variable {w w' : World} {X Y : Nat → Prop} {f : Nat → Clk} {L : List Clk}
theorem Fam.keeps {S : Nat → Prop} (h : Fam w X f L) (k : Keeps S w w') (hs : ∀ k, S k → X k) : Fam w' X f L :=
  ⟨fun i hi => (h.c i hi).kept k (fun j hj hS => h.cx i hi j hj (hs j hS)), fun d hd => (h.l d hd).kept k (fun j hj hS => h.lx d hd j hj (hs j hS)), h.cc, h.cl, h.ll, h.cx, h.lx⟩
theorem Fam.keeps2 {S : Nat → Prop} (h : Fam w X f L) (k : Keeps S w w') (hs : ∀ d, ((∃ j, j < 2 ∧ d = f j) ∨ d ∈ L) → ∀ k, d.own k → ¬ S k) : Fam w' X f L :=
  ⟨fun i hi => (h.c i hi).kept k (hs _ (.inl ⟨i, hi, rfl⟩)), fun d hd => (h.l d hd).kept k (hs _ (.inr hd)), h.cc, h.cl, h.ll, h.cx, h.lx⟩
theorem Fam.other (h : Fam w X f L) (hy : ∀ k, k < w.heap.size → Y k → X k) : Fam w Y f L :=
  ⟨h.c, h.l, h.cc, h.cl, h.ll, fun i hi k hk hY => h.cx i hi k hk (hy k ((h.c i hi).lt hk) hY), fun d hd k hk hY => h.lx d hd k hk (hy k ((h.l d hd).lt hk) hY)⟩
theorem Fam.play (h : Fam w X f L) {i : Nat} (hi : i < 2) {d : Clk} (hd : d.At w') (ho : d.own = (f i).own) (k : Keeps (fun k => (f i).own k ∨ X k) w w') : Fam w' X (upf f i d) L := by
  have hs : ∀ j, j < 2 → (upf f i d j).own = (f j).own := fun j _ => by
    by_cases e : j = i
    · subst e; rw [upf_same, ho]
    · rw [upf_other _ _ e]
  refine ⟨fun j hj => ?_, fun e he => ?_, fun a b ha hb hab k hk => ?_, fun j hj e he k hk => ?_, h.ll, fun j hj k hk => ?_, h.lx⟩
  · by_cases e : j = i
    · subst e; rw [upf_same]; exact hd
    · rw [upf_other _ _ e]
      exact (h.c j hj).kept k (fun q hq hS => by
        rcases hS with hS | hS
        · exact h.cc j i hj hi e q hq hS
        · exact h.cx j hj q hq hS)
  · exact (h.l e he).kept k (fun q hq hS => by
      rcases hS with hS | hS
      · exact h.cl i hi e he q hS hq
      · exact h.lx e he q hq hS)
  · rw [hs a ha] at hk
    rw [hs b hb]
    exact h.cc a b ha hb hab k hk
  · rw [hs j hj] at hk
    exact h.cl j hj e he k hk
  · rw [hs j hj] at hk
    exact h.cx j hj k hk
theorem Fam.fresh (h : Fam w X f L) {i : Nat} (hi : i < 2) {d : Clk} (hd : d.At w') (hn : ∀ k, d.own k → w.heap.size ≤ k) (hX : ∀ k, X k → k < w.heap.size) (k : Keeps (fun _ => False) w w') : Fam w' X (upf f i d) (L ++ [f i]) := by
  have hcx : ∀ q, d.own q → ∀ e : Clk, e.At w → ¬ e.own q := fun q hq e he ho => by
    have := hn q hq
    have := he.lt ho
    omega
  refine ⟨fun j hj => ?_, fun e he => ?_, fun a b ha hb hab q hq => ?_, fun j hj e he q hq => ?_, ?_, fun j hj q hq hx => ?_, fun e he q hq => ?_⟩
  · by_cases e : j = i
    · subst e; rw [upf_same]; exact hd
    · rw [upf_other _ _ e]; exact (h.c j hj).kept k (fun _ _ f => f)
  · rcases List.mem_append.1 he with he | he
    · exact (h.l e he).kept k (fun _ _ f => f)
    · obtain rfl : e = f i := by simpa using he
      exact (h.c i hi).kept k (fun _ _ f => f)
  · by_cases ea : a = i
    · subst ea
      rw [upf_same] at hq
      rw [upf_other _ _ (Ne.symm hab)]
      exact hcx q hq _ (h.c b hb)
    · rw [upf_other _ _ ea] at hq
      by_cases eb : b = i
      · subst eb
        rw [upf_same]
        exact fun hd2 => hcx q hd2 _ (h.c a ha) hq
      · rw [upf_other _ _ eb]
        exact h.cc a b ha hb hab q hq
  · by_cases ej : j = i
    · subst ej
      rw [upf_same] at hq
      rcases List.mem_append.1 he with he | he
      · exact hcx q hq e (h.l e he)
      · obtain rfl : e = f j := by simpa using he
        exact hcx q hq _ (h.c j hj)
    · rw [upf_other _ _ ej] at hq
      rcases List.mem_append.1 he with he | he
      · exact h.cl j hj e he q hq
      · obtain rfl : e = f i := by simpa using he
        exact h.cc j i hj hi ej q hq
  · rw [List.pairwise_append]
    refine ⟨h.ll, List.pairwise_singleton _ _, fun a ha b hb => ?_⟩
    obtain rfl : b = f i := by simpa using hb
    exact (h.cl i hi a ha).symm
  · by_cases ej : j = i
    · subst ej
      rw [upf_same] at hq
      have := hn q hq
      have := hX q hx
      omega
    · rw [upf_other _ _ ej] at hq
      exact h.cx j hj q hq hx
  · rcases List.mem_append.1 he with he | he
    · exact h.lx e he q hq
    · obtain rfl : e = f i := by simpa using he
      exact h.cx i hi q hq
theorem Fam.less {d : Clk} (h : Fam w X f (L ++ [d])) : Fam w X f L :=
  ⟨h.c, fun e he => h.l e (List.mem_append_left _ he), h.cc, fun i hi e he => h.cl i hi e (List.mem_append_left _ he), (List.pairwise_append.1 h.ll).1, h.cx, fun e he => h.lx e (List.mem_append_left _ he)⟩
end

/-- An append whose run is known, at its place in the walk. -/
theorem wpList_append_run {P : Program} {w : World} {ops : Array Oper} {rest : List Oper} {o : Oper} {a : Act} {Q : Exit → Act → World → Prop} (hgd : o.guard = none) (s x : Operand) (t : TypeId)
    (ho : o.op = .call { callee := .builtin .append, args := #[s, x], argTypes := #[t, t] }) (v y v' : Value) (w' : World) (hs : a.eval s = v) (hx : a.eval x = y)
    (hrun : (Builtin.append_ #[t, t] o.type #[v, y]).run P w = .ok v' w') (h : wpList P ops Q rest (a.put o.dst v') w') : wpList P ops Q (o :: rest) a w :=
  wpList_plain hgd fun K hK => by
    unfold Oper.wp execOp
    simp only [ho, resolve, invoke, builtin, Sem.run_bind, Sem.run_pure, Result.andThen_ok, List.map_toArray, List.map_cons, List.map_nil, hs, hx, hrun]
    exact hK _ _ h

theorem own_block {w : World} {base sz : Nat} {e : TypeId} {v : Value} {n : Nat} {xs : List Value} (h : w.ownsRow base e sz v n xs) {g : Nat} (hg : v.ownBlock = some g) : g < w.heap.size ∧ base ≤ g := by
  rcases h.2 with ⟨rfl, rfl⟩ | ⟨g', cap, cur, rfl, h1, h2, _⟩
  · cases hg
  · cases hg; exact ⟨lt_of_block h2, h1⟩
theorem own_keep {w w' : World} {base sz : Nat} {e : TypeId} {v : Value} {n : Nat} {xs : List Value} (h : w.ownsRow base e sz v n xs) (hk : ∀ g, v.ownBlock = some g → w'.heap[g]? = w.heap[g]?) : w'.ownsRow base e sz v n xs := by
  refine ⟨h.1, ?_⟩
  rcases h.2 with ⟨rfl, rfl⟩ | ⟨g', cap, cur, rfl, h1, h2, h3⟩
  · exact .inl ⟨rfl, rfl⟩
  · exact .inr ⟨g', cap, cur, rfl, h1, (hk g' rfl).trans h2, h3⟩

/-- One more behind a row of the call's own. -/
theorem push_row {P : Program} (w : World) (base : Nat) (t ty e : TypeId) (z : Value) (sz bytes : Nat) (ht : P.underlying t = some (.slice e)) (hinfo : (P.info? e).map (fun i => (i.zero, i.size, i.bytes)) = some (some z, sz, bytes)) (hzs : z.cells.size = sz) (hsz : 0 < sz)
    (v : Value) (n : Nat) (xs : List Value) (hown : w.ownsRow base e sz v n xs) (ad : Addr) (us : List Value) (hlen : us.length = 1 * sz) (hu : ∀ j u, us[j]? = some u → w.cell? (ad.add j) = some u) (h1 : ∀ u ∈ us, u.oneCell' = true) (h63 : n + 1 ≤ maxLen) (hbytes : (n + 1) * bytes ≤ 140737488355328) (hbase : base ≤ w.heap.size) :
    ∃ v' w', (Builtin.append_ #[t, t] ty #[v, .slice (some ad) 1 1]).run P w = .ok v' w' ∧ w'.ownsRow base e sz v' (n + 1) (xs ++ us) ∧ w.grownBy w' v.ownBlock ∧ (v'.ownBlock = v.ownBlock ∨ ∀ g, v'.ownBlock = some g → w.heap.size ≤ g) := by
  obtain ⟨i, hi, hz0, hz1, hz2⟩ := info_parts hinfo
  obtain ⟨v', w', r1, r2, r3, _⟩ := run_append_own (P := P) w base t ty e i z sz bytes ht hi hz0 hz1 hz2 hzs hsz v n xs hown ad 1 1 us hlen hu h1 h63 hbytes hbase
  refine ⟨v', w', r1, r2, r3, ?_⟩
  rcases hown.2 with ⟨rfl, rfl⟩ | ⟨g, cap, cur, rfl, q1, q2, q3, q4, q5, q6⟩
  · obtain ⟨v2, w2, s1, s2, _⟩ := run_append_own (P := P) w w.heap.size t ty e i z sz bytes ht hi hz0 hz1 hz2 hzs hsz (.slice none 0 0) 0 xs ⟨hown.1, .inl ⟨rfl, rfl⟩⟩ ad 1 1 us hlen hu h1 h63 hbytes (Nat.le_refl _)
    rw [r1] at s1
    injection s1 with e1 e2
    subst e1; subst e2
    exact .inr fun g hg => (own_block s2 hg).2
  · by_cases c : n + 1 ≤ cap
    · have s1 := run_append_room (P := P) w t ty e i ht hi g n cap cur q2 ad 1 1 us (by rw [hz1]; exact hlen) hu h1 c (by
        rw [hz1, q5, hlen]
        have := Nat.mul_le_mul_right sz c
        rw [Nat.add_mul] at this
        exact this)
      rw [r1] at s1
      injection s1 with e1 e2
      exact .inl (by rw [e1]; rfl)
    · have s1 := run_append_grow (P := P) w t ty e i z ht hi hz0 ⟨g, 0, none⟩ n cap xs (by rw [hz1]; exact hown.1) (fun j v0 hj => by
        rw [addr_add, Nat.zero_add, cell_of_block q2]
        have hlt : j < n * sz := by
          have := (List.getElem?_eq_some_iff.1 hj).1
          rw [hown.1] at this; omega
        rw [← q6, List.getElem?_take_of_lt hlt] at hj
        simpa using hj) ad 1 1 us (by rw [hz1]; exact hlen) hu (by omega) (by simp only [maxLen] at h63; omega) (growslice_fits (by omega) (by rw [hz2]; exact hbytes))
      rw [r1] at s1
      injection s1 with e1 e2
      exact .inr fun g' hg => by rw [e1] at hg; cases hg; exact Nat.le_refl _

end Go.Proofs.Ytlldffbohojppaa
