
/- A call leaves the error, and where it comes, as they were (layer 21), pure. No statement of the seat is proved here. -/
import Derived.Test.YtmnbilhblkobdaaLeM
namespace Go.Proofs.Ytmnbilhblkobdaa
open Go.RowKit

theorem takeG_like (s : Wd) (h p : Int) : s.like (s.takeG h p).2 := by
  unfold Wd.takeG
  split
  · exact get_like _ _
  · split <;> exact (get_like _ _).trans (put_like _ _ _)
theorem free_like (s : Wd) (a : Int) : s.like (s.free a).2 := by
  unfold Wd.free
  split
  · exact get_like _ _
  · split <;> exact (get_like _ _).trans (get_like _ _)
theorem takeN_like (s : Wd) (a n : Int) : s.like (s.takeN a n).2 := by
  unfold Wd.takeN
  split
  · exact free_like _ _
  · split
    · exact free_like _ _
    · split <;> exact (free_like _ _).trans (put_like _ _ _)
theorem take_like (s : Wd) (a n : Int) : s.like (s.take a n).2 := by
  unfold Wd.take
  split
  · exact Wd.like.refl _
  · split
    · exact get_like _ _
    · split
      · exact (get_like _ _).trans (takeN_like _ _ _)
      · exact (get_like _ _).trans (takeG_like _ _ _)
theorem give_like (s : Wd) (r a n : Int) : s.like (s.give r a n).2 := by
  unfold Wd.give
  split
  · exact Wd.like.refl _
  · split
    · exact get_like _ _
    · split
      · exact (get_like _ _).trans (put_like _ _ _)
      · exact ((get_like _ _).trans (put_like _ _ _)).trans (put_like _ _ _)
theorem empty_like (s : Wd) (l : Int) : s.like (s.empty l).2 := by
  unfold Wd.empty
  split
  · exact put_like _ _ _
  · exact (put_like _ _ _).trans (put_like _ _ _)
theorem hang_like (s : Wd) (t : Sp) (n k : Int) : s.like (s.hang t n k).2 := by
  unfold Wd.hang
  split
  · exact put_like _ _ _
  · split
    · exact (put_like _ _ _).trans (put_like _ _ _)
    · exact ((put_like _ _ _).trans (put_like _ _ _)).trans (put_like _ _ _)
theorem unhang_like (s : Wd) (t : Sp) : s.like (s.unhang t).2 := by
  unfold Wd.unhang
  split
  · exact get_like _ _
  · exact (get_like _ _).trans (put_like _ _ _)
theorem recount_like (s : Wd) (l m : Int) : s.like (s.recount l m).2 := by
  unfold Wd.recount
  split
  · exact get_like _ _
  · exact (get_like _ _).trans (put_like _ _ _)
theorem new_like (s : Wd) (r : Int) : s.like (s.new r).2 := by
  unfold Wd.new
  split
  · exact take_like _ _ _
  · split <;> exact (take_like _ _ _).trans (empty_like _ _)
theorem len_like (s : Wd) (l : Int) : s.like (s.len l).2 := by
  unfold Wd.len
  split <;> exact get_like _ _
def Lk {α : Type} (F : Wd → (α × Int) × Wd) : Prop := ∀ s : Wd, s.like (F s).2
theorem lk_bnd {α β : Type} {F : Wd → (α × Int) × Wd} {G : α → Wd → (β × Int) × Wd} {d : β} (h : Lk F) (hg : ∀ x, Lk (G x)) : Lk (bnd F G d) := by
  intro s
  unfold bnd
  split
  · exact h s
  · exact (h s).trans (hg _ _)
theorem lk_rtn {α : Type} (x : α) : Lk (rtn x) := fun s => Wd.like.refl s
theorem lk_err {α : Type} (d : α) (e : Int) : Lk (err d e) := fun s => Wd.like.refl s
theorem lk_ite {α : Type} {c : Prop} [Decidable c] {F G : Wd → (α × Int) × Wd} (h1 : Lk F) (h2 : Lk G) : Lk (if c then F else G) := by
  split
  · exact h1
  · exact h2
theorem lk_way (pass : List Sp → Sp → Bool) : ∀ (m : Nat) (b : Sp) (a : Int) (P : List Sp), Lk (wayF pass m b a P)
  | 0, b, a, P => fun s => Wd.like.refl s
  | m + 1, b, a, P => fun s => by
    rw [wayF_succ]
    exact lk_bnd (F := fun s => s.follow a) (fun s => follow_like s a) (fun t => lk_ite (lk_rtn _) (lk_ite (lk_err _ _) (lk_ite (lk_rtn _) (lk_way pass m _ _ _)))) s
theorem lk_seek (l key : Int) : Lk (seekF l key) := lk_bnd (lk_way _ _ _ _ _) (fun _ => lk_rtn _)
theorem lk_all (l : Int) : Lk (allF l) := lk_bnd (F := fun s => s.get l) (fun s => get_like s l) (fun _ => lk_bnd (lk_way _ _ _ _ _) (fun _ => lk_ite (lk_err _ _) (lk_rtn _)))
theorem lk_gives (r : Int) : ∀ L : List Sp, Lk (givesF r L)
  | [] => lk_rtn _
  | t :: L => lk_bnd (F := giveU r t.nd 2) (fun s => give_like s r t.nd 2) (fun _ => lk_gives r L)
theorem lk_giveN (r l : Int) : Lk (giveNF r l) := lk_bnd (lk_all l) (fun _ => lk_bnd (lk_gives r _) (fun _ => lk_rtn _))
theorem call_like (s : Wd) (r l kind key : Int) : s.like (s.call r l kind key).2 := by
  unfold Wd.call
  split
  · rw [ins_eq]
    exact lk_bnd (lk_seek l key) (fun t => lk_ite (lk_rtn _) (lk_bnd (F := fun s => s.take r 2) (fun s => take_like s r 2) (fun x => lk_bnd (F := hangU t x key) (fun s => hang_like s t x key) (fun _ => lk_bnd (F := recountU l 1) (fun s => recount_like s l 1) (fun _ => lk_rtn _))))) s
  · split
    · rw [rem_eq]
      exact lk_bnd (lk_seek l key) (fun t => lk_ite (lk_rtn _) (lk_bnd (F := unhangU t) (fun s => unhang_like s t) (fun _ => lk_bnd (F := recountU l 18446744073709551615) (fun s => recount_like s l _) (fun _ => lk_bnd (F := giveU r t.nd 2) (fun s => give_like s r t.nd 2) (fun _ => lk_rtn _))))) s
    · split
      · rw [has_eq]
        exact lk_bnd (lk_seek l key) (fun _ => lk_rtn _) s
      · split
        · exact len_like s l
        · split
          · have q := lk_bnd (F := wayS (pLe key) l) (G := fun x => rtn (x.1.k, x.1.there)) (d := (0, false)) (lk_way _ _ _ _ _) (fun _ => lk_rtn _) s
            have e := above_eq (pLe key) l s
            unfold aboveF at e
            rw [← e] at q
            exact q
          · split
            · have q := lk_bnd (F := wayS pNo l) (G := fun x => rtn (x.1.k, x.1.there)) (d := (0, false)) (lk_way _ _ _ _ _) (fun _ => lk_rtn _) s
              have e := above_eq pNo l s
              unfold aboveF at e
              rw [← e] at q
              exact q
            · split
              · rw [keys_eq]
                exact lk_bnd (lk_all l) (fun _ => lk_rtn _) s
              · split
                · rw [clear_eq]
                  exact lk_bnd (lk_giveN r l) (fun _ => lk_ite (lk_rtn _) (lk_bnd (F := emptyU l) (fun s => empty_like s l) (fun _ => lk_rtn _))) s
                · split
                  · have hd : s.like (s.drop r l).2 := by
                      have hg : Lk (giveU r l 2) := fun s => give_like s r l 2
                      have q := lk_bnd (F := giveNF r l) (G := fun _ => giveU r l 2) (d := ()) (lk_giveN r l) (fun _ => hg) s
                      have e := drop_eq r l s
                      unfold dropF at e
                      rw [← e] at q
                      exact q
                    split
                    · exact hd
                    · exact hd.trans (new_like _ _)
                  · exact Wd.like.refl _
end Go.Proofs.Ytmnbilhblkobdaa
