
/-
  What becomes of a table in memory when its slots are laid anew; keys put anew in any order; what a loop over its entries leaves. No statement of the seat is proved here.
-/
import Derived.Test.YtmhinalgjfiliaaDoorRing
namespace Go.Proofs.YtmhinalgjfiliaaDoor
open Go.RowKit

theorem nodup_len : ∀ (A B : List Int), A.Nodup → (∀ a, a ∈ A → a ∈ B) → A.length ≤ B.length := by
  intro A
  induction A with
  | nil => intro B _ _; simp
  | cons a A ih =>
    intro B hd hs
    rw [List.nodup_cons] at hd
    have ha : a ∈ B := hs a (by simp)
    have h1 := ih (B.erase a) hd.2 (fun q hq => (List.mem_erase_of_ne (by rintro rfl; exact hd.1 hq)).2 (hs q (by simp [hq])))
    rw [List.length_erase_of_mem ha] at h1
    have : 0 < B.length := List.length_pos_of_mem ha
    simp only [List.length_cons]
    omega

/-- Keys of O put anew, in whatever order and however often: the table is in order. -/
theorem fill_any {n : Nat} {h : Int → Nat} {O : List Int} (hh : ∀ k, h k < n) (hO : O.length < n) : ∀ (m : Nat) (l : List Int), l.length = m → (∀ q, q ∈ l → q ∈ O) →
    ∃ O', Inv n h (fillN n h l) O' ∧ ∀ q, q ∈ O' → q ∈ l := by
  intro m
  induction m with
  | zero =>
    intro l hm _
    obtain rfl := List.eq_nil_of_length_eq_zero hm
    exact ⟨[], Inv.empty hh (by omega), fun q hq => hq⟩
  | succ m ih =>
    intro l hm hs
    rcases List.eq_nil_or_concat l with rfl | ⟨l', k, rfl⟩
    · simp at hm
    · rw [List.concat_eq_append] at hm hs ⊢
      simp at hm
      obtain ⟨O', I, hO'⟩ := ih l' hm (fun q hq => hs q (by simp [hq]))
      rw [fillN_snoc]
      have hk : k ∈ O := hs k (by simp)
      have hsub : ∀ q, q ∈ O' → q ∈ O := fun q hq => hs q (by simp [hO' q hq])
      have hlen := nodup_len O' O I.nodup hsub
      by_cases hin : k ∈ O'
      · have hsl := I.slot_in hin
        have : (fillN n h l').set (slotN n (fillN n h l') (h k) k) (some k) = fillN n h l' := by
          apply List.ext_getElem?
          intro i
          rw [List.getElem?_set]
          split
          · rename_i e
            subst e
            have hl : slotN n (fillN n h l') (h k) k < (fillN n h l').length := by rw [I.len]; exact slot_lt (I.home k) k I.free
            rw [if_pos hl, get_of_lt hl, hsl]
          · rfl
        rw [this]
        exact ⟨O', I, fun q hq => by simp [hO' q hq]⟩
      · refine ⟨O' ++ [k], I.put hin ?_, fun q hq => ?_⟩
        · have h2 := nodup_len (O' ++ [k]) O (by rw [List.nodup_append]; exact ⟨I.nodup, by simp, fun a ha b hb => by simp at hb; subst hb; exact fun e => hin (e ▸ ha)⟩) (fun q hq => by
            rw [List.mem_append, List.mem_singleton] at hq
            rcases hq with hq | rfl
            · exact hsub q hq
            · exact hk)
          simp at h2
          omega
        · rw [List.mem_append, List.mem_singleton] at hq ⊢
          rcases hq with hq | rfl
          · exact .inl (hO' q hq)
          · exact .inr rfl

section
variable {T : Kinds} {w w' : World} {b s e0 : Nat} {K : List (Option Int)} {O : List Int} {bf : Int → Nat} {vf : Int → Value}

theorem TabAt.grown (h : TabAt T w b s e0 K O bf vf) {row : Option Nat} (hg : w.grownBy w' row) (hr : ∀ r, row = some r → ∃ o : Obj, w.heap[r]? = some o ∧ o.isCells = false) : TabAt T w' b s e0 K O bf vf :=
  ⟨block_kept h.tab hg hr, block_kept h.slots hg hr, block_kept h.sent hg hr, fun i hi => block_kept (h.ent i hi) hg hr, h.bs, h.be, h.se, h.kb, h.binj, h.nd⟩

theorem Keeps.grown {S : Nat → Prop} {a : World} (h : Keeps S a w) {row : Option Nat} (hg : w.grownBy w' row) (hr : ∀ r, row = some r → a.heap.size ≤ r) : Keeps S a w' :=
  ⟨hg.os.trans h.os, hg.tape.trans h.tape, hg.output.trans h.output, Nat.le_trans h.size hg.size, fun k hk hs => (hg.block k (Nat.lt_of_lt_of_le hk h.size) (fun e => by have := hr k e.symm; omega)).trans (h.block k hk hs)⟩
theorem ownFrom_keeps {β : Type} {S : Nat → Prop} {a : World} {B : Nat} (hB : a.heap.size ≤ B) : OwnFrom B (fun (_ : β) W => Keeps S a W) :=
  fun _ _ _ _ hs hg hr => hs.grown hg (fun k e => Nat.le_trans hB (hr k e).1)
theorem Keeps.putObj {S : Nat → Prop} {a : World} (h : Keeps S a w) {l : Nat} (hl : a.heap.size ≤ l) (o : Obj) : Keeps S a (w.putObj l o) :=
  h.grown (grownBy_putObj' w l o) (fun r e => by cases e; exact hl)
theorem TabAt.putObj (h : TabAt T w b s e0 K O bf vf) {l : Nat} {o : Obj} (hl : w.heap[l]? = some o) (ho : o.isCells = false) (o' : Obj) : TabAt T (w.putObj l o') b s e0 K O bf vf :=
  h.grown (grownBy_putObj' w l o') (fun r e => by cases e; exact ⟨o, hl, ho⟩)
theorem keepsFrom_set {B : Nat} (W : World) (p : Addr) (v : Value) : KeepsFrom B W (W.setCell p v) := (KeepsOthers.setCell W p v).from B
theorem KeptOn.set {S : Nat → Prop} (W : World) (p : Addr) (v : Value) (h : ¬ S p.block) : KeptOn S W (W.setCell p v) :=
  ⟨by simp, fun k c t fr hs hk => (Below.heap_setCell _ _ _ _ (by rintro rfl; exact h hs)).trans hk⟩

/-- The slots are laid anew, in a new block, behind another one. -/
theorem TabAt.reslot (h : TabAt T w b s e0 K O bf vf) (K' : List (Option Int)) (n' : Nat) (hn : K'.length = n') (o : Obj) :
    TabAt T (((w.setCell ⟨b, 0, none⟩ (.slice (some ⟨w.heap.size + 1, 0, none⟩) n' n')).alloc o).alloc (.cells (slotCells bf K') T.slot)) b (w.heap.size + 1) e0 K' O bf vf := by
  subst hn
  have hb := h.lt (.inl rfl)
  have he := h.lt (.inr (.inr (.inl rfl)))
  refine ⟨alloc_old (alloc_old (block_set h.tab 0 _) _) _, ?_, alloc_old (alloc_old (block_other h.sent (Ne.symm h.be) 0 _) _) _, fun i hi => alloc_old (alloc_old (block_other (h.ent i hi) (h.kb _ (oat_mem hi)).1 0 _) _) _,
    by omega, h.be, by omega, fun k hk => ⟨(h.kb k hk).1, ?_, (h.kb k hk).2.2⟩, h.binj, h.nd⟩
  · have := alloc_block ((w.setCell ⟨b, 0, none⟩ (.slice (some ⟨w.heap.size + 1, 0, none⟩) K'.length K'.length)).alloc o) (.cells (slotCells bf K') T.slot)
    simpa using this
  · have := h.lt (.inr (.inr (.inr ⟨k, hk, rfl⟩)))
    omega
theorem TabAt.below (h : TabAt T w b s e0 K O bf vf) (hb : Below w.heap.size w w') : TabAt T w' b s e0 K O bf vf :=
  ⟨(hb.block _ (lt_of_block h.tab)).trans h.tab, (hb.block _ (lt_of_block h.slots)).trans h.slots, (hb.block _ (lt_of_block h.sent)).trans h.sent,
    fun i hi => (hb.block _ (lt_of_block (h.ent i hi))).trans (h.ent i hi), h.bs, h.be, h.se, h.kb, h.binj, h.nd⟩
end

theorem Like.cell {a w : World} (h : Like a w) (p : Addr) : a.cell? p = w.cell? p := by simp only [World.cell?, h.heap]
theorem Like.seen {a w : World} {b s p : Nat} {K : List (Option Int)} {bf : Int → Nat} (l : Like a w) (h : Seen w b s p K bf) : Seen a b s p K bf :=
  ⟨h.len, h.p3, h.p63, (l.cell _).trans h.c0, fun x hx => (l.cell _).trans (h.cs x hx), fun x k hx => (l.cell _).trans (h.ck x k hx)⟩
theorem Like.tz {a w : World} (l : Like a w) (h : Tz w) : Tz a := fun i hi => (l.cell _).trans (h i hi)
theorem like_drewN (w : World) (m : Nat) : Like (w.drewN m) w := ⟨rfl, rfl, rfl, rfl⟩

theorem addr_add (g o j : Nat) : ((⟨g, o, none⟩ : Addr).add j) = ⟨g, o + j, none⟩ := by
  unfold Addr.add
  split <;> simp_all

/-- The slots of a key's coming: how many (as a power of two), and what they hold. -/
def putP (p : Nat) (K : List (Option Int)) (O : List Int) (k : Int) : Nat × List (Option Int) :=
  if k ∈ O then (p, K) else
  if 4 * (O.length + 1) ≤ 3 * 2 ^ p then (p, K.set (slotN (2 ^ p) K (homeP p k) k) (some k))
  else (p + 1, (fillN (2 ^ (p + 1)) (homeP (p + 1)) O).set (slotN (2 ^ (p + 1)) (fillN (2 ^ (p + 1)) (homeP (p + 1)) O) (homeP (p + 1) k) k) (some k))
def putO (O : List Int) (k : Int) : List Int := if k ∈ O then O else O ++ [k]
end Go.Proofs.YtmhinalgjfiliaaDoor
