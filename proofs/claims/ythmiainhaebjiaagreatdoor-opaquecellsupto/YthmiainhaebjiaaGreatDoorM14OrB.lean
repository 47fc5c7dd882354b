/-
  No statement of the seat is proved here. (Several texts in one: OrB, OpI, OpJ.)
-/
import Derived.Test.YthmiainhaebjiaaGreatDoorM13OpG
import Derived.Maps.RangeRun
import Derived.Test.YthmiainhaebjiaaGreatDoorM05WiB

/- A map of rows gone over. No statement of the seat is proved here. -/
namespace Go.Proofs.YthmiainhaebjiaaGreatDoor
open Go.RowKit Go.Shelf
open Go.ChangeMaps (setBlock)

/-- A map that is gone over: which addresses are left. -/
structure Itr (w : World) (b r : Nat) (f : Int → Option Sl) (D : List Int) (m : Nat) : Prop where
  ex : ∃ (es : Array MapEntry) (clock : Nat) (L : List (Int × Sl)) (seen : Array Nat), w.heap[b]? = some (.map es clock) ∧ es.toList.map (fun x => (x.key, x.val)) = L.map (fun p => (numV p.1, p.2.v)) ∧ (L.map (·.1)).Nodup ∧ (∀ y, L.lookup y = f y) ∧ (∀ x ∈ es.toList, x.born < clock) ∧ (es.toList.map (·.born)).Nodup ∧
    w.heap[r]? = some (.mapIter (some b) clock seen clock) ∧ (∀ x ∈ es.toList, x.born ∈ seen.toList ↔ ∃ a ∈ D, x.key = numV a) ∧ (∀ a ∈ D, ∃ s, f a = some s) ∧ (leftOf es seen).size = m
theorem Itr.keeps {w w' : World} {S : Nat → Prop} {b r : Nat} {f : Int → Option Sl} {D : List Int} {m : Nat} (h : Itr w b r f D m) (k : Keeps S w w') (hb : ¬ S b) (hr : ¬ S r) : Itr w' b r f D m := by
  obtain ⟨es, clock, L, seen, h1, h2, h3, h4, h5, h6, h7, h8⟩ := h.ex
  exact ⟨es, clock, L, seen, (k.block b (lt_of_block h1) hb).trans h1, h2, h3, h4, h5, h6, (k.block r (lt_of_block h7) hr).trans h7, h8⟩
theorem Itr.lt {w : World} {b r : Nat} {f : Int → Option Sl} {D : List Int} {m : Nat} (h : Itr w b r f D m) : b < w.heap.size ∧ r < w.heap.size := by
  obtain ⟨es, clock, L, seen, h1, h2, h3, h4, h5, h6, h7, h8⟩ := h.ex
  exact ⟨lt_of_block h1, lt_of_block h7⟩
/-- How many are left, off the world: for a loop's measure. -/
def itN (w : World) (b r : Nat) : Nat :=
  match w.heap[b]?, w.heap[r]? with
  | some (.map es _), some (.mapIter _ _ seen _) => (leftOf es seen).size
  | _, _ => 0
theorem Itr.left {w : World} {b r : Nat} {f : Int → Option Sl} {D : List Int} {m : Nat} (h : Itr w b r f D m) : itN w b r = m := by
  obtain ⟨es, clock, L, seen, h1, h2, h3, h4, h5, h6, h7, h8, h9, h10⟩ := h.ex
  unfold itN
  rw [h1, h7]
  exact h10
/-- The loop begins. -/
theorem MapS.range {w : World} {b : Nat} {f : Int → Option Sl} (h : MapS w b f) :
    ∃ w' m, (Instr.range 66 (.map (some b))).run Tryz.prog w = .ok (.pointer (some ⟨w.heap.size, 0, none⟩)) w' ∧ Itr w' b w.heap.size f [] m ∧ Keeps (fun _ => False) w w' := by
  obtain ⟨es, clock, L, h1, h2, h3, h4, h5, h6⟩ := h.ex
  have hgo := MapKept.run_getObj_map (P := Tryz.prog) h1
  have kA := (Keeps.refl (fun _ => False) w).alloc (.mapIter (some b) clock #[] clock)
  refine ⟨w.alloc (.mapIter (some b) clock #[] clock), _, ?_, ⟨es, clock, L, #[], (kA.block b (lt_of_block h1) (fun f => f)).trans h1, h2, h3, h4, h5, h6, (MapKept.heap_alloc w _).1, fun x hx => by simp, fun a ha => by simp at ha, rfl⟩, kA⟩
  simp [Instr.range, run_underlying Tryz.underlying66, hgo, Result.andThen, go_sem]
theorem nodup_inj {α β : Type} {g : α → β} {l : List α} (hn : (l.map g).Nodup) {x y : α} (hx : x ∈ l) (hy : y ∈ l) (h : g x = g y) : x = y := by
  induction l with
  | nil => simp at hx
  | cons e l ih =>
    simp only [List.map_cons, List.nodup_cons] at hn
    rcases List.mem_cons.1 hx with hx1 | hx1
    · rcases List.mem_cons.1 hy with hy1 | hy1
      · rw [hx1, hy1]
      · exact absurd (List.mem_map.2 ⟨y, hy1, by rw [← h, hx1]⟩) hn.1
    · rcases List.mem_cons.1 hy with hy1 | hy1
      · exact absurd (List.mem_map.2 ⟨x, hx1, by rw [h, hy1]⟩) hn.1
      · exact ih hn.2 hx1 hy1
theorem lookupS_mem : ∀ {L : List (Int × Sl)} {a : Int} {s : Sl}, L.lookup a = some s → (a, s) ∈ L
  | [], _, _, h => by simp at h
  | (x, y) :: L, a, s, h => by
    rw [List.lookup] at h
    by_cases hx : a = x
    · subst hx
      simp at h
      simp [h]
    · have hb : (a == x) = false := by simp [hx]
      rw [hb] at h
      exact List.mem_cons_of_mem _ (lookupS_mem h)
/-- A round: nothing is left, and all addresses were there; or another one comes. -/
theorem Itr.next {w : World} {b r : Nat} {f : Int → Option Sl} {D : List Int} {m : Nat} (h : Itr w b r f D m) (ty : TypeId) :
    ((∀ a s, f a = some s → a ∈ D) ∧ (Instr.next (.pointer (some ⟨r, 0, none⟩)) false ty).run Tryz.prog w = .ok (.tuple #[.bool false]) w) ∨
    ∃ (a : Int) (s : Sl) (w' : World) (m' : Nat), f a = some s ∧ a ∉ D ∧ m' < m ∧ (Instr.next (.pointer (some ⟨r, 0, none⟩)) false ty).run Tryz.prog w = .ok (.tuple #[.bool true, .int .u64 a, s.v]) w' ∧ (Instr.entry (.pointer (some ⟨r, 0, none⟩))).run Tryz.prog w' = .ok (.tuple #[.int .u64 a, s.v]) w' ∧ Itr w' b r f (D ++ [a]) m' ∧ Keeps (fun q => q = r) w w' := by
  obtain ⟨es, clock, L, seen, h1, h2, h3, h4, h5, h6, h7, h8, h9, h10⟩ := h.ex
  have hbr : b ≠ r := by
    rintro rfl
    rw [h1] at h7
    cases h7
  have hkeys : (es.toList.map (·.key)).Nodup := by
    have e1 : es.toList.map (·.key) = (L.map (·.1)).map numV := by
      have := congrArg (List.map Prod.fst) h2
      simp only [List.map_map] at this ⊢
      exact this
    rw [e1]
    exact List.Pairwise.map _ (fun x y (hxy : x ≠ y) e => hxy (numV_inj e)) h3
  rcases run_next_at (P := Tryz.prog) w ty r b clock clock seen es clock h7 h1 h5 (Nat.le_refl _) with ⟨g1, g2⟩ | ⟨e, he, w1, hw1, g2⟩
  · refine .inl ⟨fun a s hf => ?_, g2⟩
    have hm : (a, s) ∈ L := lookupS_mem (by rw [h4, hf])
    have hme : (numV a, s.v) ∈ es.toList.map (fun x => (x.key, x.val)) := by rw [h2]; exact List.mem_map.2 ⟨(a, s), hm, rfl⟩
    obtain ⟨x, hx, hxe⟩ := List.mem_map.1 hme
    have hxs : x.born ∈ seen.toList := by
      apply Classical.byContradiction
      intro c
      have hl : x ∈ (leftOf es seen).toList := by
        unfold leftOf
        rw [Array.toList_filter, List.mem_filter]
        exact ⟨hx, by simpa using c⟩
      have : (leftOf es seen).toList.length = 0 := by simpa using g1
      rw [List.length_eq_zero_iff] at this
      rw [this] at hl
      simp at hl
    obtain ⟨a', ha', hk⟩ := (h8 x hx).1 hxs
    rw [(Prod.mk.inj hxe).1] at hk
    rw [numV_inj hk]
    exact ha'
  · unfold leftOf at he
    rw [Array.toList_filter, List.mem_filter] at he
    obtain ⟨hee, hes⟩ := he
    have hes2 : e.born ∉ seen.toList := by simpa using hes
    obtain ⟨j, hj⟩ := List.getElem?_of_mem hee
    obtain ⟨p, hp, e1, e2⟩ := entS_mem h2 hj
    have hpL := List.mem_of_getElem? hp
    have hfp : f p.1 = some p.2 := by rw [← h4]; exact lookupS_of_mem h3 hpL
    have hr1 : w1.heap = w.heap ∧ w1.os = w.os ∧ w1.tape = w.tape ∧ w1.output = w.output := by rcases hw1 with rfl | rfl <;> exact ⟨rfl, rfl, rfl, rfl⟩
    have hrl := lt_of_block h7
    have hN1 : (setBlock w1 r (.mapIter (some b) clock (seen.push e.born) clock)).heap[b]? = some (.map es clock) := by
      show (w1.heap.setIfInBounds r _)[b]? = _
      rw [hr1.1]
      simp [hbr.symm, h1]
    have hN2 : (setBlock w1 r (.mapIter (some b) clock (seen.push e.born) clock)).heap[r]? = some (.mapIter (some b) clock (seen.push e.born) clock) := by
      show (w1.heap.setIfInBounds r _)[r]? = _
      rw [hr1.1]
      simp [hrl]
    have hEn := run_entry_at (P := Tryz.prog) _ r b clock seen es clock e hN2 hN1 hee h6
    rw [e1, e2] at hEn
    refine .inr ⟨p.1, p.2, _, _, hfp, fun c => hes2 ((h8 e hee).2 ⟨p.1, c, e1⟩), ?_, by rw [g2, e1, e2]; rfl, hEn, ⟨es, clock, L, seen.push e.born, hN1, h2, h3, h4, h5, h6, hN2, fun x hx => ?_, fun a ha => ?_, rfl⟩, ?_⟩
    · rw [← h10]
      have hlt : (leftOf es (seen.push e.born)).toList.length < (leftOf es seen).toList.length := by
        have e3 : (leftOf es (seen.push e.born)).toList = (leftOf es seen).toList.filter (fun x => !(x.born == e.born)) := by
          unfold leftOf
          rw [Array.toList_filter, Array.toList_filter, List.filter_filter]
          apply List.filter_congr
          intro x _
          simp only [Array.contains_push]
          cases seen.contains x.born <;> cases x.born == e.born <;> rfl
        rw [e3]
        refine List.length_filter_lt_length_iff_exists.2 ⟨e, ?_, by simp⟩
        unfold leftOf
        rw [Array.toList_filter, List.mem_filter]
        exact ⟨hee, hes⟩
      simpa using hlt
    · rw [Array.toList_push, List.mem_append, List.mem_singleton, h8 x hx]
      constructor
      · rintro (⟨a, ha, hk⟩ | hb)
        · exact ⟨a, by simp [ha], hk⟩
        · rw [nodup_inj h6 hx hee hb]
          exact ⟨p.1, by simp, e1⟩
      · rintro ⟨a, ha, hk⟩
        rcases List.mem_append.1 ha with ha | ha
        · exact .inl ⟨a, ha, hk⟩
        · simp only [List.mem_singleton] at ha
          subst ha
          exact .inr (by rw [nodup_inj hkeys hx hee (hk.trans e1.symm)])
    · rcases List.mem_append.1 ha with ha | ha
      · exact h9 a ha
      · simp only [List.mem_singleton] at ha
        subst ha
        exact ⟨_, hfp⟩
    · refine ⟨hr1.2.1, hr1.2.2.1, hr1.2.2.2, ?_, fun q hq hs => ?_⟩
      · show w.heap.size ≤ (w1.heap.setIfInBounds r _).size
        rw [hr1.1]; simp
      · show (w1.heap.setIfInBounds r _)[q]? = _
        rw [hr1.1]
        have : ¬ r = q := fun e => hs e.symm
        simp [this]
end Go.Proofs.YthmiainhaebjiaaGreatDoor


/- Places of the last events are all unlike; addresses of what is read and written (pure). No statement of the seat is proved here. -/
namespace Go.Proofs.YthmiainhaebjiaaGreatDoor

theorem step_cases {T : Wt} {k : Nat} (h : PInv T k) (e : Ev) : (stepW T k e).l = T.l ++ [newP e k] ∧ e.kd = 1 ∨ (stepW T k e).l = T.l ∨ ∃ (n : Nat) (hn : n < T.l.length), (stepW T k e).l = T.l.set n (noteP (T.l[n]) k e) := by
  unfold stepW openW
  by_cases h1 : e.kd = 1
  · left
    rw [if_pos h1]
    refine ⟨?_, h1⟩
    unfold markW
    simp only [if_true]
    have hg : ((T.l ++ [freshP e.th k])[T.l.length]?).getD pt0 = freshP e.th k := by simp
    simp only [hg]
    rw [show noteP (freshP e.th k) k e = newP e k from rfl]
    rw [List.set_append_right _ _ (Nat.le_refl _)]; simp
  · right
    rw [if_neg h1]
    unfold markW
    cases hto : T.o e.th with
    | none => left; rfl
    | some n =>
      right
      have hn := h.o _ _ hto
      refine ⟨n, hn, ?_⟩
      simp only [List.getElem?_eq_getElem hn, Option.getD_some]
/-- No two blocks end at one place. -/
def DistL (l : List Pt) : Prop := (l.map (·.la)).Nodup
theorem distL_step {T : Wt} {k : Nat} (h : PInv T k) (hd : DistL T.l) (e : Ev) : DistL (stepW T k e).l := by
  rcases step_cases h e with ⟨q, h1⟩ | q | ⟨n, hn, q⟩
  · rw [q]
    unfold DistL
    rw [List.map_append, List.nodup_append]
    refine ⟨hd, by simp, fun a ha b hb => ?_⟩
    simp only [List.map_cons, List.map_nil, List.mem_singleton] at hb
    subst hb
    obtain ⟨p, hp, rfl⟩ := List.mem_map.1 ha
    have := (h.bd p hp).2.1
    have h2 : (newP e k).la = k := noteP_la _ _ _
    rw [h2]; omega
  · rw [q]; exact hd
  · rw [q]
    unfold DistL
    rw [List.map_set, noteP_la]
    rw [List.nodup_iff_pairwise_ne, List.pairwise_iff_getElem]
    have hd2 := List.pairwise_iff_getElem.1 (List.nodup_iff_pairwise_ne.1 hd)
    intro i j hi hj hij
    simp only [List.length_set, List.length_map] at hi hj
    rw [List.getElem_set, List.getElem_set]
    by_cases e1 : n = i
    · rw [if_pos e1, if_neg (by omega)]
      have := (h.bd _ (List.getElem_mem (show j < T.l.length from hj))).2.1
      rw [List.getElem_map]; omega
    · rw [if_neg e1]
      by_cases e2 : n = j
      · rw [if_pos e2]
        have := (h.bd _ (List.getElem_mem (show i < T.l.length from hi))).2.1
        rw [List.getElem_map]; omega
      · rw [if_neg e2]
        exact hd2 i j (by simpa using hi) (by simpa using hj) hij
theorem distL_all : ∀ (g : List Ev) (T : Wt) (k : Nat), PInv T k → DistL T.l → DistL (partsF T g k).l
  | [], _, _, _, hd => hd
  | e :: g, T, k, h, hd => by
    rw [partsF]
    exact distL_all g _ _ (pinv_step h e) (distL_step h hd e)
theorem distL_parts (L : List Ev) : DistL (partsL L) := distL_all L wt0 0 pinv0 List.nodup_nil
/-- What is read and written are cells. -/
def InL (n : Nat) (l : List Pt) : Prop := ∀ p ∈ l, (∀ w ∈ p.rs, 0 ≤ w.1 ∧ w.1 < (n : Int)) ∧ (∀ w ∈ p.ws, 0 ≤ w.1 ∧ w.1 < (n : Int))
theorem noteP_in {n : Nat} {p : Pt} {k : Int} {e : Ev} (h : (∀ w ∈ p.rs, 0 ≤ w.1 ∧ w.1 < (n : Int)) ∧ (∀ w ∈ p.ws, 0 ≤ w.1 ∧ w.1 < (n : Int))) (he : 0 ≤ e.ad) (hm : e.kd = 2 ∨ e.kd = 3 → e.ad < (n : Int)) : (∀ w ∈ (noteP p k e).rs, 0 ≤ w.1 ∧ w.1 < (n : Int)) ∧ (∀ w ∈ (noteP p k e).ws, 0 ≤ w.1 ∧ w.1 < (n : Int)) := by
  unfold noteP
  by_cases h1 : e.kd = 1 ∨ e.kd = 4
  · rw [if_pos h1]; exact h
  · rw [if_neg h1]
    by_cases h2 : e.kd = 2
    · rw [if_pos h2]
      split
      · exact h
      · refine ⟨fun w hw => ?_, h.2⟩
        rcases List.mem_append.1 hw with q | q
        · exact h.1 w q
        · simp only [List.mem_singleton] at q; subst q; exact ⟨he, hm (.inl h2)⟩
    · rw [if_neg h2]
      by_cases h3 : e.kd = 3
      · rw [if_pos h3]
        refine ⟨h.1, fun w hw => ?_⟩
        rcases List.mem_append.1 hw with q | q
        · exact h.2 w q
        · simp only [List.mem_singleton] at q; subst q; exact ⟨he, hm (.inr h3)⟩
      · rw [if_neg h3]
        (repeat' split) <;> exact h
theorem inL_all {n : Nat} : ∀ (g : List Ev) (T : Wt) (k : Nat), PInv T k → InL n T.l → (∀ e ∈ g, 0 ≤ e.ad ∧ (e.kd = 2 ∨ e.kd = 3 → e.ad < (n : Int))) → InL n (partsF T g k).l
  | [], _, _, _, hd, _ => hd
  | e :: g, T, k, h, hd, hg => by
    rw [partsF]
    have he := hg e (by simp)
    refine inL_all g _ _ (pinv_step h e) ?_ (fun x hx => hg x (by simp [hx]))
    rcases step_cases h e with ⟨q, h1⟩ | q | ⟨m, hm, q⟩
    · rw [q]
      intro p hp
      rcases List.mem_append.1 hp with hp | hp
      · exact hd p hp
      · simp only [List.mem_singleton] at hp
        subst hp
        exact noteP_in (p := freshP e.th k) ⟨fun w hw => by simp [freshP] at hw, fun w hw => by simp [freshP] at hw⟩ he.1 he.2
    · rw [q]; exact hd
    · rw [q]
      intro p hp
      rcases List.mem_or_eq_of_mem_set hp with hp | rfl
      · exact hd p hp
      · exact noteP_in (hd _ (List.getElem_mem hm)) he.1 he.2
theorem inL_parts {n : Nat} {L : List Ev} (h : ∀ e ∈ L, 0 ≤ e.ad ∧ (e.kd = 2 ∨ e.kd = 3 → e.ad < (n : Int))) : InL n (partsL L) := inL_all L wt0 0 pinv0 (fun p hp => by simp [wt0] at hp) h
/-- The writing commits, by their places. -/
structure WrOf (l : List Pt) (W : List Pt) : Prop where
  perm : W.Perm (l.filter fun p => p.wr)
  up : W.Pairwise fun p q => p.la < q.la
theorem wr_uniq {l W V : List Pt} (h1 : WrOf l W) (h2 : WrOf l V) : W = V := by
  have hp := h1.perm.trans h2.perm.symm
  exact hp.eq_of_pairwise (fun a b _ _ p q => by omega) h1.up h2.up
theorem wr_strict {Z : List Pt} (hd : DistL Z) (hs : Z.Pairwise fun p q => p.la ≤ q.la) : Z.Pairwise fun p q => p.la < q.la := by
  have hd2 := List.pairwise_map.1 (List.nodup_iff_pairwise_ne.1 hd)
  exact (hs.and hd2).imp fun ⟨a, b⟩ => by omega
end Go.Proofs.YthmiainhaebjiaaGreatDoor


/- A walk of write (layer 16). No statement of the seat is proved here. -/
namespace Go.Proofs.YthmiainhaebjiaaGreatDoor
open Go.RowKit Go.Shelf

/-- A course is another one now. -/
theorem StAt.upd {w w' : World} {mb base : Nat} {f : Int → Option Sl} {S : Crs2} (h : StAt w mb base f S) (ad : Int) (s' : Sl) (l' : List (Int × Int)) (k : Keeps (fun q => (∃ s, f ad = some s ∧ s.v.ownBlock = some q) ∨ q = mb) w w') (hm : MapS w' mb (fun y => if y = ad then some s' else f y)) (hr : OwnR stC 2 111 w' base s'.v l') (hq : ∀ q, s'.v.ownBlock = some q → (∃ s, f ad = some s ∧ s.v.ownBlock = some q) ∨ w.heap.size ≤ q) :
    StAt w' mb base (fun y => if y = ad then some s' else f y) (fun y => if y = ad then some l' else S y) := by
  refine ⟨hm, fun a => ?_, fun a s hs => ?_, fun a b s t q ha hb hqs hqt => ?_, h.lo⟩
  · split
    · rfl
    · exact h.dom a
  · by_cases e : a = ad
    · rw [if_pos e] at hs ⊢
      cases hs; exact hr
    · rw [if_neg e] at hs ⊢
      refine (h.row a s hs).keeps k fun g hg => ?_
      have hb := own_block (h.row a s hs).own hg
      rintro (⟨t, ht, hqt⟩ | rfl)
      · exact e (h.ap a ad s t g hs ht hg hqt)
      · have := h.lo; omega
  · by_cases e1 : a = ad <;> by_cases e2 : b = ad
    · rw [e1, e2]
    · rw [if_pos e1] at ha
      rw [if_neg e2] at hb
      cases ha
      rcases hq q hqs with ⟨t', ht', hq'⟩ | hge
      · exact e1.trans (h.ap b ad t t' q hb ht' hqt hq').symm
      · have := own_block (h.row b t hb).own hqt; omega
    · rw [if_neg e1] at ha
      rw [if_pos e2] at hb
      cases hb
      rcases hq q hqt with ⟨t', ht', hq'⟩ | hge
      · exact (h.ap a ad s t' q ha ht' hqs hq').trans e2.symm
      · have := own_block (h.row a s ha).own hqs; omega
    · rw [if_neg e1] at ha
      rw [if_neg e2] at hb
      exact h.ap a b s t q ha hb hqs hqt
theorem putS_eq (F : List Int) (S : Crs2) (n ad x : Int) : putS F S n (ad, x) = fun y => if y = ad then some (insC (crs F S ad) n x) else S y := rfl
/-- What write leaves. -/
def WrP (F : List Int) (S : Crs2) (n ad x : Int) (mb base : Nat) (_f : Int → Option Sl) (w : World) (ex : Ending) (w' : World) : Prop := ex = .returned (.tuple #[]) ∧ (∃ f', StAt w' mb base f' (putS F S n (ad, x))) ∧ Keeps (fun q => q = mb ∨ base ≤ q) w w'
set_option maxRecDepth 100000 in
set_option maxHeartbeats 8000000 in
theorem write_new (pb mb base : Nat) (f : Int → Option Sl) (S : Crs2) (n ad x : Int) (v : Value) (F : List Int) (hn : 0 < n) (h0 : 0 ≤ ad) (h1 : ad < F.length) (w : World) (c0 : w.cell? ⟨pb, 0, none⟩ = some v) (c4 : w.cell? ⟨pb, 4, none⟩ = some (.map (some mb))) (hF : WsAt w v F) (h : StAt w mb base f S) (hf : f ad = none) (hb : base ≤ w.heap.size) :
    Calls Tryz.prog 67 #[.pointer (some ⟨pb, 0, none⟩), .int .i64 n, .agg #[.int .u64 ad, .int .u64 x, .bool false]] w (WrP F S n ad x mb base f w) := by
  have hS : S ad = none := by have := h.dom ad; rw [hf] at this; simpa using this.symm
  have hcr : insC (crs F S ad) n x = [(0, wdAt F ad), (n, x)] := by
    have e : crs F S ad = [(0, wdAt F ad)] := by unfold crs; rw [hS]; rfl
    rw [e]; unfold insC
    rw [if_neg (by simp; omega)]; rfl
  have kA := (Keeps.refl (fun _ => False) w).alloc (.cells #[.int .u64 ad, .int .u64 x, .bool false] 75)
  have bA := (MapKept.heap_alloc w (.cells #[.int .u64 ad, .int .u64 x, .bool false] 75)).1
  obtain ⟨A, hA⟩ : ∃ A, A = w.alloc (.cells #[.int .u64 ad, .int .u64 x, .bool false] 75) := ⟨_, rfl⟩
  have hsA : A.heap.size = w.heap.size + 1 := by rw [hA]; simp
  rw [← hA] at kA bA
  have CO := course_new pb mb base f S ad v F h0 h1 A (kA.cellB (fun f => f) c0) (kA.cellB (fun f => f) c4) (hF.keeps wC_ne kA) (h.keeps kA (fun f => f) (fun _ _ _ f => f)) hf
  have kB := (Keeps.refl (fun _ => False) A).alloc (.cells #[.int .i64 0, .int .u64 (wdAt F ad)] 111)
  have bB := (MapKept.heap_alloc A (.cells #[.int .i64 0, .int .u64 (wdAt F ad)] 111)).1
  have K2 := kA.trans kB
  have hsB : (A.alloc (.cells #[.int .i64 0, .int .u64 (wdAt F ad)] 111)).heap.size = A.heap.size + 1 := by simp
  generalize hd : wdAt F ad = d at *
  obtain ⟨B, hB⟩ : ∃ B, B = A.alloc (.cells #[.int .i64 0, .int .u64 d] 111) := ⟨_, rfl⟩
  rw [← hB] at CO kB bB K2 hsB
  have hB2 : B = A.alloc (.cells #[.int .i64 0, .int .u64 d] 111) := hB
  have oB : OwnR stC 2 111 B.drew A.heap.size (.slice (some ⟨A.heap.size, 0, none⟩) 1 1) [(0, d)] := OwnR.ofBlock (L := [((0 : Int), d)]) st_len (w := B.drew) bB rfl (Nat.le_refl _) (by simp [maxLen])
  obtain ⟨v', w3, r1, r2, r3⟩ := oB.push st_len st_one (by decide) Tryz.underlying109 info_st rfl (by decide) (ty := 109) (n, x) (cs := #[.int .i64 n, .int .u64 x]) rfl (by simp)
  obtain ⟨s', hv', -⟩ := sl_of r2
  have K3 : Keeps (fun _ => False) w w3 := by
    refine K2.drew.young (S := fun q => q = A.heap.size) ((r3.keeps.mono fun q _ hq => ?_)) (fun q hq => by omega)
    simp only [Value.ownBlock, Option.some.injEq] at hq
    exact hq.symm
  have h3 := h.keeps K3 (fun f => f) (fun _ _ _ f => f)
  obtain ⟨w4, m1, m2, m3⟩ := h3.map.put ad s'
  have hvo : ∀ q, s'.v.ownBlock = some q → A.heap.size ≤ q := fun q hq => by rw [← hv'] at hq; exact (own_block r2.own hq).2
  have hmo : ∀ q, s'.v.ownBlock = some q → q ≠ mb := fun q hq e => by have := hvo q hq; have := h.lo; have := h.map.lt; omega
  have r4 := (r2.keeps m3 (fun q hq e => hmo q (by rw [← hv']; exact hq) e)).low (b' := base) (by omega)
  rw [hv'] at r4 r1
  have K4 : Keeps (fun q => (∃ s, f ad = some s ∧ s.v.ownBlock = some q) ∨ q = mb) w w4 := (K3.mono fun _ _ f => f.elim).trans (m3.mono fun q _ e => .inr e)
  have HF : Hid (WrP F S n ad x mb base f w (.returned (.tuple #[])) w4) := by
    refine ⟨rfl, ⟨fun y => if y = ad then some s' else f y, ?_⟩, K4.mono fun q _ hq => ?_⟩
    · rw [putS_eq, hcr]
      exact h.upd ad s' _ K4 m2 r4 (fun q hq => .inr (by have := hvo q hq; omega))
    · rcases hq with ⟨s, hs, _⟩ | e
      · rw [hf] at hs; cases hs
      · exact .inl e
  have S0 : B.drew.cell? ⟨pb, 4, none⟩ = some (.map (some mb)) ∧ B.drew.cell? ⟨w.heap.size, 0, none⟩ = some (.int .u64 ad) ∧ B.drew.cell? ⟨w.heap.size, 1, none⟩ = some (.int .u64 x) := ⟨K2.cellB (fun f => f) c4, by rw [cell_of_block (w := B.drew) ((kB.block _ (lt_of_block bA) (fun f => f)).trans bA)]; rfl, by rw [cell_of_block (w := B.drew) ((kB.block _ (lt_of_block bA) (fun f => f)).trans bA)]; rfl⟩
  have kC := (Keeps.refl (fun _ => False) B.drew).alloc (.cells #[.int .i64 n, .int .u64 x] 111)
  have S1 : (B.drew.alloc (.cells #[.int .i64 n, .int .u64 x] 111)).cell? ⟨pb, 4, none⟩ = some (.map (some mb)) ∧ (B.drew.alloc (.cells #[.int .i64 n, .int .u64 x] 111)).cell? ⟨w.heap.size, 0, none⟩ = some (.int .u64 ad) ∧ (B.drew.alloc (.cells #[.int .i64 n, .int .u64 x] 111)).cell? ⟨w.heap.size, 1, none⟩ = some (.int .u64 x) := ⟨kC.cellB (fun f => f) S0.1, kC.cellB (fun f => f) S0.2.1, kC.cellB (fun f => f) S0.2.2⟩
  have hnb : ∀ b : Nat, b < A.heap.size → ¬ (Value.slice (some ⟨A.heap.size, 0, none⟩) 1 1).ownBlock = some b := fun b hb hq => by simp only [Value.ownBlock, Option.some.injEq] at hq; omega
  have l4 : pb < w.heap.size := World.block_lt_of_cell? _ _ c4
  have S2 : w3.cell? ⟨pb, 4, none⟩ = some (.map (some mb)) ∧ w3.cell? ⟨w.heap.size, 0, none⟩ = some (.int .u64 ad) ∧ w3.cell? ⟨w.heap.size, 1, none⟩ = some (.int .u64 x) := ⟨r3.keeps.cellB (hnb pb (by omega)) S0.1, r3.keeps.cellB (hnb w.heap.size (by omega)) S0.2.1, r3.keeps.cellB (hnb w.heap.size (by omega)) S0.2.2⟩
  have cB0 : B.cell? ⟨A.heap.size, 0, none⟩ = some (.int .i64 0) := by rw [cell_of_block bB]; rfl
  have hnz : ((0 : Int) == n) = false := by rw [beq_eq_false_iff_ne]; omega
  obtain ⟨sa, sn, sc⟩ := s'
  dsimp only [Sl.v] at r1 m1
  have HA : Hid (_ = _) := r1
  have hBB : B.drew.heap.size = B.heap.size := rfl
  rw [hBB] at HA
  obtain ⟨gB, hgB⟩ : ∃ gB, gB = A.heap.size := ⟨_, rfl⟩
  rw [← hgB] at CO HA cB0
  have HG : Hid (gB = A.heap.size) := hgB
  clear hgB r1 r2 r3 r4 K3 K4 h3 m2 m3 hvo hmo oB bB kB K2 bA kA hsB hsA hB hB2 hv' hBB c0 c4 hF h hf hcr hS hb kC hnb l4
  clear h0 h1 hd
  have hA2 : Hid (A = _) := hA
  subst hA
  go_enter Tryz.func67, Tryz.ntmps67
  go_wp2_with fail
  refine CO.mono ?_
  rintro ex w1 ⟨rfl, hw1⟩
  subst w1
  clear CO
  go_wp2_with fail
  refine wp_until (S := (fun W : World => W.cell? ⟨pb, 4, none⟩ = some (.map (some mb)) ∧ W.cell? ⟨w.heap.size, 0, none⟩ = some (.int .u64 ad) ∧ W.cell? ⟨w.heap.size, 1, none⟩ = some (.int .u64 x))) 13 14 rfl hmxp ?_
  simp only [Array.replicate_succ, Array.replicate_zero, List.push_toArray, List.nil_append, List.cons_append]
  refine u_take (i := 0) (v := (.pointer (some ⟨pb, 0, none⟩))) 28 rfl rfl (by kernel_rfl) (by kernel_rfl) (by kernel_rfl) (by kernel_rfl) rfl (fun w' hw' => by obtain ⟨q0, q1, q2⟩ := hw'; go_simp) S0 ?_
  simp only [Act.put, List.setIfInBounds_toArray, List.set_cons_zero, List.set_cons_succ]
  refine u_take (i := 1) (v := (.pointer (some ⟨pb, 0, none⟩))) 29 rfl rfl (by kernel_rfl) (by kernel_rfl) (by kernel_rfl) (by kernel_rfl) rfl (fun w' hw' => by obtain ⟨q0, q1, q2⟩ := hw'; go_simp) S0 ?_
  simp only [Act.put, List.setIfInBounds_toArray, List.set_cons_zero, List.set_cons_succ]
  refine u_take (i := 2) (v := (.pointer (some ⟨pb, 4, none⟩))) 30 rfl rfl (by kernel_rfl) (by kernel_rfl) (by kernel_rfl) (by kernel_rfl) rfl (fun w' hw' => by obtain ⟨q0, q1, q2⟩ := hw'; go_simp) S0 ?_
  simp only [Act.put, List.setIfInBounds_toArray, List.set_cons_zero, List.set_cons_succ]
  refine u_take (i := 3) (v := (.map (some mb))) 31 rfl rfl (by kernel_rfl) (by kernel_rfl) (by kernel_rfl) (by kernel_rfl) rfl (fun w' hw' => by obtain ⟨q0, q1, q2⟩ := hw'; go_simp) S0 ?_
  simp only [Act.put, List.setIfInBounds_toArray, List.set_cons_zero, List.set_cons_succ]
  refine u_take (i := 4) (v := (.pointer (some ⟨w.heap.size, 0, none⟩))) 32 rfl rfl (by kernel_rfl) (by kernel_rfl) (by kernel_rfl) (by kernel_rfl) rfl (fun w' hw' => by obtain ⟨q0, q1, q2⟩ := hw'; go_simp) S0 ?_
  simp only [Act.put, List.setIfInBounds_toArray, List.set_cons_zero, List.set_cons_succ]
  refine u_take (i := 5) (v := (.int .u64 ad)) 33 rfl rfl (by kernel_rfl) (by kernel_rfl) (by kernel_rfl) (by kernel_rfl) rfl (fun w' hw' => by obtain ⟨q0, q1, q2⟩ := hw'; go_simp) S0 ?_
  simp only [Act.put, List.setIfInBounds_toArray, List.set_cons_zero, List.set_cons_succ]
  refine u_take (i := 6) (v := (.slice (some ⟨gB, 0, none⟩) 1 1)) 34 rfl rfl (by kernel_rfl) (by kernel_rfl) (by kernel_rfl) (by kernel_rfl) rfl (fun w' hw' => by obtain ⟨q0, q1, q2⟩ := hw'; go_simp) S0 ?_
  simp only [Act.put, List.setIfInBounds_toArray, List.set_cons_zero, List.set_cons_succ]
  refine u_take (i := 7) (v := (.int .i64 n)) 35 rfl rfl (by kernel_rfl) (by kernel_rfl) (by kernel_rfl) (by kernel_rfl) rfl (fun w' hw' => by obtain ⟨q0, q1, q2⟩ := hw'; go_simp) S0 ?_
  simp only [Act.put, List.setIfInBounds_toArray, List.set_cons_zero, List.set_cons_succ]
  refine u_take (i := 8) (v := (.pointer (some ⟨w.heap.size, 1, none⟩))) 36 rfl rfl (by kernel_rfl) (by kernel_rfl) (by kernel_rfl) (by kernel_rfl) rfl (fun w' hw' => by obtain ⟨q0, q1, q2⟩ := hw'; go_simp) S0 ?_
  simp only [Act.put, List.setIfInBounds_toArray, List.set_cons_zero, List.set_cons_succ]
  refine u_take (i := 9) (v := (.int .u64 x)) 37 rfl rfl (by kernel_rfl) (by kernel_rfl) (by kernel_rfl) (by kernel_rfl) rfl (fun w' hw' => by obtain ⟨q0, q1, q2⟩ := hw'; go_simp) S0 ?_
  simp only [Act.put, List.setIfInBounds_toArray, List.set_cons_zero, List.set_cons_succ]
  refine u_take (i := 10) (v := (.agg #[.int .i64 n, .int .u64 x])) 38 rfl rfl (by kernel_rfl) (by kernel_rfl) (by kernel_rfl) (by kernel_rfl) rfl (fun w' hw' => by obtain ⟨q0, q1, q2⟩ := hw'; go_simp) S0 ?_
  simp only [Act.put, List.setIfInBounds_toArray, List.set_cons_zero, List.set_cons_succ]
  refine u_val (i := 11) (v := (.slice (some ⟨B.heap.size, 0, none⟩) 1 1)) (w' := B.drew.alloc (.cells #[.int .i64 n, .int .u64 x] 111)) (some 39) (by kernel_rfl) rfl rfl rfl (by go_simp) S1 ?_
  simp only [Act.put, List.setIfInBounds_toArray, List.set_cons_zero, List.set_cons_succ]
  refine u_val (i := 12) (v := (.slice sa sn sc)) (w' := w3) (some 40) (by kernel_rfl) rfl rfl rfl (run_append_op rfl rfl rfl HA.out) S2 ?_
  simp only [Act.put, List.setIfInBounds_toArray, List.set_cons_zero, List.set_cons_succ]
  refine u_last (w' := w4) (by kernel_rfl) rfl rfl rfl (by go_simp) (by kernel_rfl) ?_
  go_wp2_with fail
  go_end0
  exact HF.out
theorem insC_same {l : List (Int × Int)} {n x : Int} (hne : 0 < l.length) (hl : (l[l.length - 1]'(by omega)).1 = n) : insC l n x = l.set (l.length - 1) (n, x) := by
  obtain ⟨l', p, rfl⟩ : ∃ l' p, l = l' ++ [p] := ⟨l.dropLast, l.getLast (by intro e; rw [e] at hne; exact absurd hne (by simp)), (List.dropLast_concat_getLast _).symm⟩
  simp at hl
  unfold insC
  rw [List.getLast?_concat, List.dropLast_concat]
  simp [hl]
theorem insC_more {l : List (Int × Int)} {n x : Int} (hne : 0 < l.length) (hl : (l[l.length - 1]'(by omega)).1 ≠ n) : insC l n x = l ++ [(n, x)] := by
  obtain ⟨l', p, rfl⟩ : ∃ l' p, l = l' ++ [p] := ⟨l.dropLast, l.getLast (by intro e; rw [e] at hne; exact absurd hne (by simp)), (List.dropLast_concat_getLast _).symm⟩
  simp at hl
  unfold insC
  rw [List.getLast?_concat]
  simp [hl]
set_option maxRecDepth 100000 in
set_option maxHeartbeats 8000000 in
theorem write_same (pb mb base : Nat) (f : Int → Option Sl) (S : Crs2) (n ad x : Int) (F : List Int) (s : Sl) (l : List (Int × Int)) (m : Nat) (hm : l.length = m + 1) (hll : l.length ≤ 1100000) (w : World) (c4 : w.cell? ⟨pb, 4, none⟩ = some (.map (some mb))) (_hpb : pb < base) (_hbs : base ≤ w.heap.size) (h : StAt w mb base f S) (hf : f ad = some s) (hS : S ad = some l) (hl : (l[l.length - 1]'(by omega)).1 = n) :
    Calls Tryz.prog 67 #[.pointer (some ⟨pb, 0, none⟩), .int .i64 n, .agg #[.int .u64 ad, .int .u64 x, .bool false]] w (WrP F S n ad x mb base f w) := by
  have hcr : crs F S ad = l := by unfold crs; rw [hS]; rfl
  have ho := h.row ad s hf
  rw [hS, Option.getD_some] at ho
  obtain ⟨sa, sn, sc⟩ := s
  dsimp only [Sl.v] at ho
  obtain ⟨g, cap, cur, hv, hbg, hgb, hgs⟩ := ho.at (by omega)
  injection hv with e1 e2 e3
  subst e1 e2 e3
  have hown : ∀ q, (∃ s, f ad = some s ∧ s.v.ownBlock = some q) ↔ q = g := fun q => by
    rw [hf]
    simp only [Option.some.injEq]
    exact ⟨fun ⟨s, e, hq⟩ => by subst e; simp only [Value.ownBlock, Option.some.injEq] at hq; exact hq.symm, fun e => ⟨_, rfl, by rw [e]; rfl⟩⟩
  have kA := (Keeps.refl (fun _ => False) w).alloc (.cells #[.int .u64 ad, .int .u64 x, .bool false] 75)
  have bA := (MapKept.heap_alloc w (.cells #[.int .u64 ad, .int .u64 x, .bool false] 75)).1
  have hg1 := lt_of_block hgb
  have hsA : (w.alloc (.cells #[.int .u64 ad, .int .u64 x, .bool false] 75)).heap.size = w.heap.size + 1 := by simp
  have CO := course_old pb mb base f S ad ⟨some ⟨g, 0, none⟩, l.length, sc⟩ _ (kA.cellB (fun f => f) c4) (h.keeps kA (fun f => f) (fun _ _ _ f => f)) hf
  dsimp only [Sl.v] at CO
  have oA := ho.keeps kA (fun _ _ f => f)
  obtain ⟨g', off', hgg, hcc⟩ := (oA.els st_len).at m (by omega)
  have hoo := (oA.els st_len)
  have hmg : g = g' ∧ off' = 0 := by
    rcases oA.own.2 with ⟨q, _⟩ | ⟨g3, cap3, cur3, q1, _⟩
    · cases q
    · simp only [Option.some.injEq, Addr.mk.injEq, and_true] at hgg
      exact ⟨hgg.1, hgg.2.symm⟩
  obtain ⟨rfl, rfl⟩ := hmg
  have hlm : l[l.length - 1]'(by omega) = l[m]'(by omega) := by congr 1; omega
  rw [hlm] at hl
  have y0 := hcc 0 _ rfl
  have y1 := hcc 1 _ rfl
  simp only [Nat.zero_add, Nat.add_zero] at y0 y1
  rw [hl] at y0
  have r1 := oA.set st_len m 1 (n, x) (.int .u64 x) (by omega) (by decide) (by rw [← hl]; rfl)
  have hin : insC l n x = l.set m (n, x) := by rw [insC_same (by omega) (by rw [hlm]; exact hl)]; congr 1; omega
  have fz : (w.alloc (.cells #[.int .u64 ad, .int .u64 x, .bool false] 75)).frozen? ⟨g, m * 2 + 1, none⟩ = false := frozen_of_block ((kA.block g hg1 (fun f => f)).trans hgb) _
  have kS := (Keeps.refl (fun q => q = g) (w.alloc (.cells #[.int .u64 ad, .int .u64 x, .bool false] 75))).setCell (p := ⟨g, m * 2 + 1, none⟩) (.inr rfl) (.int .u64 x)
  have K4 : Keeps (fun q => (∃ s, f ad = some s ∧ s.v.ownBlock = some q) ∨ q = mb) w ((w.alloc (.cells #[.int .u64 ad, .int .u64 x, .bool false] 75)).setCell ⟨g, m * 2 + 1, none⟩ (.int .u64 x)) := (kA.mono fun _ _ f => f.elim).trans (kS.mono fun q _ e => .inl ((hown q).2 e))
  have hmb : ¬ mb = g := by have := h.lo; omega
  have m2 := (h.map.keeps kA (fun f => f)).keeps kS hmb
  have HF : Hid (WrP F S n ad x mb base f w (.returned (.tuple #[])) ((w.alloc (.cells #[.int .u64 ad, .int .u64 x, .bool false] 75)).setCell ⟨g, m * 2 + 1, none⟩ (.int .u64 x))) := by
    refine ⟨rfl, ⟨fun y => if y = ad then some ⟨some ⟨g, 0, none⟩, l.length, sc⟩ else f y, ?_⟩, K4.mono fun q _ hq => ?_⟩
    · rw [putS_eq, hcr, hin]
      refine h.upd ad _ _ K4 ?_ r1 (fun q hq => .inl ((hown q).2 ?_))
      · have e : (fun y => if y = ad then some (⟨some ⟨g, 0, none⟩, l.length, sc⟩ : Sl) else f y) = f := by
          funext y
          split
          · rename_i q; rw [q, hf]
          · rfl
        rw [e]; exact m2
      · simp only [Value.ownBlock, Option.some.injEq] at hq; exact hq.symm
    · rcases hq with q | e
      · right; rw [(hown _).1 q]; exact hbg
      · exact .inl e
  have z1 : (w.alloc (.cells #[.int .u64 ad, .int .u64 x, .bool false] 75)).cell? ⟨w.heap.size, 1, none⟩ = some (.int .u64 x) := by rw [cell_of_block bA]; rfl
  have hmN : ((l.length : Int) - 1) = (m : Int) := by omega
  have w1 : IntKind.i64.wrap ((l.length : Int) - 1) = (m : Int) := by rw [hmN, IntKind.wrap_i64]; omega
  have hm0 : (0 : Int) ≤ (m : Int) := by omega
  have hm1 : (m : Int) < (l.length : Int) := by omega
  obtain ⟨y2, hy2⟩ : ∃ y2, y2 = (l[m]'(by omega)).2 := ⟨_, rfl⟩
  rw [← hy2] at y1
  clear hy2
  clear r1 hoo hcc hgg K4 kS m2 hin hcr hlm hl oA ho h hf hS hown kA bA hsA hgb hgs c4 hm hmN
  go_enter Tryz.func67, Tryz.ntmps67
  go_wp2_with fail
  refine CO.mono ?_
  rintro ex wq ⟨rfl, hwq⟩
  subst wq
  clear CO
  generalize w.alloc (.cells #[.int .u64 ad, .int .u64 x, .bool false] 75) = A at *
  go_wp2_with fail
  go_end0
  exact HF.out
set_option maxRecDepth 100000 in
set_option maxHeartbeats 8000000 in
theorem write_more (pb mb base : Nat) (f : Int → Option Sl) (S : Crs2) (n ad x : Int) (F : List Int) (s : Sl) (l : List (Int × Int)) (m : Nat) (hm : l.length = m + 1) (hll : l.length ≤ 1100000) (w : World) (c4 : w.cell? ⟨pb, 4, none⟩ = some (.map (some mb))) (hpb : pb < base) (_hbs : base ≤ w.heap.size) (h : StAt w mb base f S) (hf : f ad = some s) (hS : S ad = some l) (hl : (l[l.length - 1]'(by omega)).1 ≠ n) :
    Calls Tryz.prog 67 #[.pointer (some ⟨pb, 0, none⟩), .int .i64 n, .agg #[.int .u64 ad, .int .u64 x, .bool false]] w (WrP F S n ad x mb base f w) := by
  have hcr : crs F S ad = l := by unfold crs; rw [hS]; rfl
  have ho := h.row ad s hf
  rw [hS, Option.getD_some] at ho
  obtain ⟨sa, sn, sc⟩ := s
  dsimp only [Sl.v] at ho
  obtain ⟨g, cap, cur, hv, hbg, hgb, hgs⟩ := ho.at (by omega)
  injection hv with e1 e2 e3
  subst e1 e2 e3
  have hown : ∀ q, (∃ s, f ad = some s ∧ s.v.ownBlock = some q) ↔ q = g := fun q => by
    rw [hf]
    simp only [Option.some.injEq]
    exact ⟨fun ⟨s, e, hq⟩ => by subst e; simp only [Value.ownBlock, Option.some.injEq] at hq; exact hq.symm, fun e => ⟨_, rfl, by rw [e]; rfl⟩⟩
  have kA := (Keeps.refl (fun _ => False) w).alloc (.cells #[.int .u64 ad, .int .u64 x, .bool false] 75)
  have bA := (MapKept.heap_alloc w (.cells #[.int .u64 ad, .int .u64 x, .bool false] 75)).1
  have hg1 := lt_of_block hgb
  have hsA : (w.alloc (.cells #[.int .u64 ad, .int .u64 x, .bool false] 75)).heap.size = w.heap.size + 1 := by simp
  have CO := course_old pb mb base f S ad ⟨some ⟨g, 0, none⟩, l.length, sc⟩ _ (kA.cellB (fun f => f) c4) (h.keeps kA (fun f => f) (fun _ _ _ f => f)) hf
  dsimp only [Sl.v] at CO
  have oA := ho.keeps kA (fun _ _ f => f)
  obtain ⟨g', off', hgg, hcc⟩ := (oA.els st_len).at m (by omega)
  have hoo := (oA.els st_len)
  have hmg : g = g' ∧ off' = 0 := by
    rcases oA.own.2 with ⟨q, _⟩ | ⟨g3, cap3, cur3, q1, _⟩
    · cases q
    · simp only [Option.some.injEq, Addr.mk.injEq, and_true] at hgg
      exact ⟨hgg.1, hgg.2.symm⟩
  obtain ⟨rfl, rfl⟩ := hmg
  have hlm : l[l.length - 1]'(by omega) = l[m]'(by omega) := by congr 1; omega
  rw [hlm] at hl
  have y0 := hcc 0 _ rfl
  have y1 := hcc 1 _ rfl
  simp only [Nat.zero_add, Nat.add_zero] at y0 y1
  obtain ⟨A, hA⟩ : ∃ A, A = w.alloc (.cells #[.int .u64 ad, .int .u64 x, .bool false] 75) := ⟨_, rfl⟩
  rw [← hA] at kA bA hsA CO oA y0
  have hin : insC l n x = l ++ [(n, x)] := insC_more (by omega) (by rw [hlm]; exact hl)
  have hln : ((l[m]'(by omega)).1 == n) = false := by rw [beq_eq_false_iff_ne]; exact hl
  generalize (l[m]'(by omega)).1 = sn at y0 hln
  obtain ⟨v', w3, r1, r2, r3⟩ := (oA.keeps (w' := A.drew) (Keeps.refl (fun _ => False) A).drew (fun _ _ f => f)).push st_len st_one (by decide) Tryz.underlying109 info_st rfl (by decide) (ty := 109) (n, x) (cs := #[.int .i64 n, .int .u64 x]) rfl (by omega)
  obtain ⟨s', hv', -⟩ := sl_of r2
  have hvg : ∀ q, (Value.slice (some ⟨g, 0, none⟩) l.length sc).ownBlock = some q → q = g := fun q hq => by simp only [Value.ownBlock, Option.some.injEq] at hq; exact hq.symm
  have K3 : Keeps (fun q => q = g) w w3 := (kA.drew.mono fun _ _ f => f.elim).trans (r3.keeps.mono fun q _ hq => hvg q hq)
  have hmb : ¬ mb = g := by have := h.lo; omega
  obtain ⟨w4, m1, m2, m3⟩ := (h.map.keeps K3 hmb).put ad s'
  have hvo : ∀ q, s'.v.ownBlock = some q → q = g ∨ w.heap.size ≤ q := fun q hq => by
    rw [← hv'] at hq
    rcases r3.own with e | e
    · rw [e] at hq; exact .inl (hvg q hq)
    · right; have h1 := e q hq; have : A.drew.heap.size = A.heap.size := rfl; omega
  have r4 := r2.keeps m3 (fun q hq e => by
    rw [hv'] at hq
    have := (own_block r2.own (by rw [hv']; exact hq)).2
    have := h.lo; omega)
  rw [hv'] at r4 r1
  have K4 : Keeps (fun q => (∃ s, f ad = some s ∧ s.v.ownBlock = some q) ∨ q = mb) w w4 := (K3.mono fun q _ e => .inl ((hown q).2 e)).trans (m3.mono fun q _ e => .inr e)
  have HF : Hid (WrP F S n ad x mb base f w (.returned (.tuple #[])) w4) := by
    refine ⟨rfl, ⟨fun y => if y = ad then some s' else f y, ?_⟩, K4.mono fun q _ hq => ?_⟩
    · rw [putS_eq, hcr, hin]
      refine h.upd ad s' _ K4 m2 r4 (fun q hq => ?_)
      rcases hvo q hq with e | e
      · exact .inl ((hown q).2 e)
      · exact .inr e
    · rcases hq with q | e
      · right; rw [(hown _).1 q]; exact hbg
      · exact .inl e
  have S0 : A.drew.cell? ⟨pb, 4, none⟩ = some (.map (some mb)) ∧ A.drew.cell? ⟨w.heap.size, 0, none⟩ = some (.int .u64 ad) ∧ A.drew.cell? ⟨w.heap.size, 1, none⟩ = some (.int .u64 x) := ⟨kA.cellB (fun f => f) c4, by rw [cell_of_block (w := A.drew) bA]; rfl, by rw [cell_of_block (w := A.drew) bA]; rfl⟩
  have kC := (Keeps.refl (fun _ => False) A.drew).alloc (.cells #[.int .i64 n, .int .u64 x] 111)
  have S1 : (A.drew.alloc (.cells #[.int .i64 n, .int .u64 x] 111)).cell? ⟨pb, 4, none⟩ = some (.map (some mb)) ∧ (A.drew.alloc (.cells #[.int .i64 n, .int .u64 x] 111)).cell? ⟨w.heap.size, 0, none⟩ = some (.int .u64 ad) ∧ (A.drew.alloc (.cells #[.int .i64 n, .int .u64 x] 111)).cell? ⟨w.heap.size, 1, none⟩ = some (.int .u64 x) := ⟨kC.cellB (fun f => f) S0.1, kC.cellB (fun f => f) S0.2.1, kC.cellB (fun f => f) S0.2.2⟩
  have hnb : ∀ b : Nat, b ≠ g → ¬ (Value.slice (some ⟨g, 0, none⟩) l.length sc).ownBlock = some b := fun b hb hq => hb (hvg b hq)
  have S2 : w3.cell? ⟨pb, 4, none⟩ = some (.map (some mb)) ∧ w3.cell? ⟨w.heap.size, 0, none⟩ = some (.int .u64 ad) ∧ w3.cell? ⟨w.heap.size, 1, none⟩ = some (.int .u64 x) := ⟨r3.keeps.cellB (hnb pb (by omega)) S0.1, r3.keeps.cellB (hnb w.heap.size (by omega)) S0.2.1, r3.keeps.cellB (hnb w.heap.size (by omega)) S0.2.2⟩
  have hmN : ((l.length : Int) - 1) = (m : Int) := by omega
  have w1 : IntKind.i64.wrap ((l.length : Int) - 1) = (m : Int) := by rw [hmN, IntKind.wrap_i64]; omega
  have hm0 : (0 : Int) ≤ (m : Int) := by omega
  have hm1 : (m : Int) < (l.length : Int) := by omega
  obtain ⟨ta, tn, tc⟩ := s'
  dsimp only [Sl.v] at r1 m1
  have hAA : A.drew.heap.size = A.heap.size := rfl
  rw [hAA] at r1
  have HA : Hid (_ = _) := r1
  have hA2 : Hid (A = _) := hA
  clear r1 r2 r3 r4 K3 K4 hoo hcc hgg m2 m3 hvo hvg hin hcr hlm hl oA ho h hf hS hown kA bA hsA hgb hgs c4 y1 hm hmN hv' kC hnb hAA
  subst hA
  go_enter Tryz.func67, Tryz.ntmps67
  go_wp2_with fail
  refine CO.mono ?_
  rintro ex wq ⟨rfl, hwq⟩
  subst wq
  clear CO
  go_wp2_with fail
  refine wp_until (S := (fun W : World => W.cell? ⟨pb, 4, none⟩ = some (.map (some mb)) ∧ W.cell? ⟨w.heap.size, 0, none⟩ = some (.int .u64 ad) ∧ W.cell? ⟨w.heap.size, 1, none⟩ = some (.int .u64 x))) 13 14 rfl hmxp ?_
  simp only [Array.replicate_succ, Array.replicate_zero, List.push_toArray, List.nil_append, List.cons_append]
  refine u_take (i := 0) (v := (.pointer (some ⟨pb, 0, none⟩))) 28 rfl rfl (by kernel_rfl) (by kernel_rfl) (by kernel_rfl) (by kernel_rfl) rfl (fun w' hw' => by obtain ⟨q0, q1, q2⟩ := hw'; go_simp) S0 ?_
  simp only [Act.put, List.setIfInBounds_toArray, List.set_cons_zero, List.set_cons_succ]
  refine u_take (i := 1) (v := (.pointer (some ⟨pb, 0, none⟩))) 29 rfl rfl (by kernel_rfl) (by kernel_rfl) (by kernel_rfl) (by kernel_rfl) rfl (fun w' hw' => by obtain ⟨q0, q1, q2⟩ := hw'; go_simp) S0 ?_
  simp only [Act.put, List.setIfInBounds_toArray, List.set_cons_zero, List.set_cons_succ]
  refine u_take (i := 2) (v := (.pointer (some ⟨pb, 4, none⟩))) 30 rfl rfl (by kernel_rfl) (by kernel_rfl) (by kernel_rfl) (by kernel_rfl) rfl (fun w' hw' => by obtain ⟨q0, q1, q2⟩ := hw'; go_simp) S0 ?_
  simp only [Act.put, List.setIfInBounds_toArray, List.set_cons_zero, List.set_cons_succ]
  refine u_take (i := 3) (v := (.map (some mb))) 31 rfl rfl (by kernel_rfl) (by kernel_rfl) (by kernel_rfl) (by kernel_rfl) rfl (fun w' hw' => by obtain ⟨q0, q1, q2⟩ := hw'; go_simp) S0 ?_
  simp only [Act.put, List.setIfInBounds_toArray, List.set_cons_zero, List.set_cons_succ]
  refine u_take (i := 4) (v := (.pointer (some ⟨w.heap.size, 0, none⟩))) 32 rfl rfl (by kernel_rfl) (by kernel_rfl) (by kernel_rfl) (by kernel_rfl) rfl (fun w' hw' => by obtain ⟨q0, q1, q2⟩ := hw'; go_simp) S0 ?_
  simp only [Act.put, List.setIfInBounds_toArray, List.set_cons_zero, List.set_cons_succ]
  refine u_take (i := 5) (v := (.int .u64 ad)) 33 rfl rfl (by kernel_rfl) (by kernel_rfl) (by kernel_rfl) (by kernel_rfl) rfl (fun w' hw' => by obtain ⟨q0, q1, q2⟩ := hw'; go_simp) S0 ?_
  simp only [Act.put, List.setIfInBounds_toArray, List.set_cons_zero, List.set_cons_succ]
  refine u_take (i := 6) (v := (.slice (some ⟨g, 0, none⟩) l.length sc)) 34 rfl rfl (by kernel_rfl) (by kernel_rfl) (by kernel_rfl) (by kernel_rfl) rfl (fun w' hw' => by obtain ⟨q0, q1, q2⟩ := hw'; go_simp) S0 ?_
  simp only [Act.put, List.setIfInBounds_toArray, List.set_cons_zero, List.set_cons_succ]
  refine u_take (i := 7) (v := (.int .i64 n)) 35 rfl rfl (by kernel_rfl) (by kernel_rfl) (by kernel_rfl) (by kernel_rfl) rfl (fun w' hw' => by obtain ⟨q0, q1, q2⟩ := hw'; go_simp) S0 ?_
  simp only [Act.put, List.setIfInBounds_toArray, List.set_cons_zero, List.set_cons_succ]
  refine u_take (i := 8) (v := (.pointer (some ⟨w.heap.size, 1, none⟩))) 36 rfl rfl (by kernel_rfl) (by kernel_rfl) (by kernel_rfl) (by kernel_rfl) rfl (fun w' hw' => by obtain ⟨q0, q1, q2⟩ := hw'; go_simp) S0 ?_
  simp only [Act.put, List.setIfInBounds_toArray, List.set_cons_zero, List.set_cons_succ]
  refine u_take (i := 9) (v := (.int .u64 x)) 37 rfl rfl (by kernel_rfl) (by kernel_rfl) (by kernel_rfl) (by kernel_rfl) rfl (fun w' hw' => by obtain ⟨q0, q1, q2⟩ := hw'; go_simp) S0 ?_
  simp only [Act.put, List.setIfInBounds_toArray, List.set_cons_zero, List.set_cons_succ]
  refine u_take (i := 10) (v := (.agg #[.int .i64 n, .int .u64 x])) 38 rfl rfl (by kernel_rfl) (by kernel_rfl) (by kernel_rfl) (by kernel_rfl) rfl (fun w' hw' => by obtain ⟨q0, q1, q2⟩ := hw'; go_simp) S0 ?_
  simp only [Act.put, List.setIfInBounds_toArray, List.set_cons_zero, List.set_cons_succ]
  refine u_val (i := 11) (v := (.slice (some ⟨(w.alloc (.cells #[.int .u64 ad, .int .u64 x, .bool false] 75)).heap.size, 0, none⟩) 1 1)) (w' := (w.alloc (.cells #[.int .u64 ad, .int .u64 x, .bool false] 75)).drew.alloc (.cells #[.int .i64 n, .int .u64 x] 111)) (some 39) (by kernel_rfl) rfl rfl rfl (by go_simp) S1 ?_
  simp only [Act.put, List.setIfInBounds_toArray, List.set_cons_zero, List.set_cons_succ]
  refine u_val (i := 12) (v := (.slice ta tn tc)) (w' := w3) (some 40) (by kernel_rfl) rfl rfl rfl (run_append_op rfl rfl rfl HA.out) S2 ?_
  simp only [Act.put, List.setIfInBounds_toArray, List.set_cons_zero, List.set_cons_succ]
  refine u_last (w' := w4) (by kernel_rfl) rfl rfl rfl (by go_simp) (by kernel_rfl) ?_
  go_wp2_with fail
  go_end0
  exact HF.out
/-- write: a word stands in its cell from a number on. -/
theorem write_any (pb mb base : Nat) (f : Int → Option Sl) (S : Crs2) (n m ad x : Int) (v : Value) (F : List Int) (hn : 0 < n) (h0 : 0 ≤ ad) (h1 : ad < F.length) (hcr : Cr (crs F S ad) m) (hll : (crs F S ad).length ≤ 1100000) (w : World) (c0 : w.cell? ⟨pb, 0, none⟩ = some v) (c4 : w.cell? ⟨pb, 4, none⟩ = some (.map (some mb))) (hpb : pb < base) (hbs : base ≤ w.heap.size) (hF : WsAt w v F) (h : StAt w mb base f S) :
    Calls Tryz.prog 67 #[.pointer (some ⟨pb, 0, none⟩), .int .i64 n, .agg #[.int .u64 ad, .int .u64 x, .bool false]] w (WrP F S n ad x mb base f w) := by
  cases hf : f ad with
  | none => exact write_new pb mb base f S n ad x v F hn h0 h1 w c0 c4 hF h hf hbs
  | some s =>
    have hS : S ad = some (crs F S ad) := by
      have := h.dom ad
      rw [hf] at this
      unfold crs
      cases q : S ad with
      | none => rw [q] at this; simp at this
      | some l => rfl
    have hne := hcr.ne
    by_cases hl : ((crs F S ad)[(crs F S ad).length - 1]'(by omega)).1 = n
    · exact write_same pb mb base f S n ad x F s (crs F S ad) ((crs F S ad).length - 1) (by omega) hll w c4 hpb hbs h hf hS hl
    · exact write_more pb mb base f S n ad x F s (crs F S ad) ((crs F S ad).length - 1) (by omega) hll w c4 hpb hbs h hf hS hl
end Go.Proofs.YthmiainhaebjiaaGreatDoor
