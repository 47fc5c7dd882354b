
/- Room's calls and list's small ones, failing at one access (layer 21), pure. No statement of the seat is proved here. -/
import Derived.Test.YtbdekpccddmehaaLeA
namespace Go.Proofs.Ytbdekpccddmehaa
open Go.RowKit

/-- Below this many accesses nothing goes round. -/
def TOP : Nat := 1152921504606846976
def giveU (r a n : Int) : Wd → (Unit × Int) × Wd := fun s => (((), (s.give r a n).1), (s.give r a n).2)
def emptyU (l : Int) : Wd → (Unit × Int) × Wd := fun s => (((), (s.empty l).1), (s.empty l).2)
def hangU (t : Sp) (node key : Int) : Wd → (Unit × Int) × Wd := fun s => (((), (s.hang t node key).1), (s.hang t node key).2)
def unhangU (t : Sp) : Wd → (Unit × Int) × Wd := fun s => (((), (s.unhang t).1), (s.unhang t).2)
def recountU (l m : Int) : Wd → (Unit × Int) × Wd := fun s => (((), (s.recount l m).1), (s.recount l m).2)
def dropU (r l : Int) : Wd → (Unit × Int) × Wd := fun s => (((), (s.drop r l).1), (s.drop r l).2)
def givesU (r : Int) (L : List Sp) : Wd → (Unit × Int) × Wd := fun s => (((), (s.gives r L).1), (s.gives r L).2)

def frC (x y : Int) : Int := if x < y then uw (y - x) else 0
section
variable {s : Wd} {k : Nat}
theorem ex_takeG (hf : s.f < 0) (hc : Cn s k) (hk : k + 2 < TOP) (h p : Int) : Ex (fun s => s.takeG h p) 0 s k 2 := by
  refine ex_eq (G := bnd (fun s => s.get p) (fun x => bnd (putU h x) (fun _ => rtn p) 0) 0) (fun s => ?_) ?_
  · unfold Wd.takeG bnd putU rtn
    simp only [ne_eq]
  · refine ex_bnd (B1 := 1) (B2 := 1) (ex_get hf hc (by unfold TOP at hk; omega) p) (fun x k' _ h1 h2 hc' hf' _ => ?_)
    exact ex_bnd (B1 := 1) (B2 := 0) (ex_put (by rw [hf']; exact hf) hc' (by unfold TOP at hk; omega) h x) (fun _ k'' _ _ _ hc'' _ _ => ex_rtn _ _ hc'' 0)
theorem ex_takeN (hf : s.f < 0) (hc : Cn s k) (hk : k + 3 < TOP) (a n : Int) : Ex (fun s => s.takeN a n) 0 s k 3 := by
  refine ex_eq (G := bnd (fun s => s.get a) (fun x => bnd (fun s => s.get (endA a)) (fun y => if frC x y < n then err 0 9 else bnd (putU a (uw (x + n))) (fun _ => rtn x) 0) 0) 0) (fun s => ?_) ?_
  · unfold Wd.takeN Wd.free bnd putU rtn err
    by_cases h1 : (s.get a).1.2 = 0
    · by_cases h2 : ((s.get a).2.get (endA a)).1.2 = 0
      · simp only [ne_eq, h1, h2, not_true_eq_false, if_false]
        by_cases h3 : frC (s.get a).1.1 ((s.get a).2.get (endA a)).1.1 < n
        · rw [if_pos h3]; exact if_pos h3
        · rw [if_neg h3]; exact if_neg h3
      · simp [h1, h2]
    · simp [h1]
  · refine ex_bnd (B1 := 1) (B2 := 2) (ex_get hf hc (by unfold TOP at hk; omega) a) (fun x k' _ h1 h2 hc' hf' _ => ?_)
    refine ex_bnd (B1 := 1) (B2 := 1) (ex_get (by rw [hf']; exact hf) hc' (by unfold TOP at hk; omega) (endA a)) (fun y k'' _ h3 h4 hc'' hf'' _ => ?_)
    split
    · exact ex_err _ _ hc'' 1
    · exact ex_bnd (B1 := 1) (B2 := 0) (ex_put (by rw [hf'', hf']; exact hf) hc'' (by unfold TOP at hk; omega) a _) (fun _ k3 _ _ _ hc3 _ _ => ex_rtn _ _ hc3 0)
theorem ex_take (hf : s.f < 0) (hc : Cn s k) (hk : k + 4 < TOP) (a : Int) : Ex (fun s => s.take a 2) 0 s k 4 := by
  have hm : mayN 2 := by unfold mayN; decide
  refine ex_eq (G := bnd (fun s => s.get (hdA a 2)) (fun x => if x = 0 then (fun s => s.takeN a 2) else (fun s => s.takeG (hdA a 2) (uw (x - 1)))) 0) (fun s => ?_) ?_
  · unfold Wd.take bnd
    simp only [hm, not_true_eq_false, if_false]
    split
    · rfl
    · split <;> rfl
  · refine ex_bnd (B1 := 1) (B2 := 3) (ex_get hf hc (by unfold TOP at hk; omega) _) (fun x k' _ h1 h2 hc' hf' _ => ?_)
    split
    · exact ex_takeN (by rw [hf']; exact hf) hc' (by omega) a 2
    · exact ex_mono (ex_takeG (by rw [hf']; exact hf) hc' (by omega) _ _) (by omega)
theorem ex_give (hf : s.f < 0) (hc : Cn s k) (hk : k + 3 < TOP) (r a : Int) : Ex (giveU r a 2) () s k 3 := by
  have hm : mayN 2 := by unfold mayN; decide
  refine ex_eq (G := bnd (fun s => s.get (hdA r 2)) (fun x => bnd (putU a x) (fun _ => putU (hdA r 2) (uw (a + 1))) ()) ()) (fun s => ?_) ?_
  · unfold giveU Wd.give bnd putU
    simp only [hm, not_true_eq_false, if_false]
    by_cases h1 : (s.get (hdA r 2)).1.2 = 0
    · by_cases h2 : ((s.get (hdA r 2)).2.put a (s.get (hdA r 2)).1.1).1 = 0
      · simp [h1, h2]
      · simp [h1, h2]
    · simp [h1]
  · refine ex_bnd (B1 := 1) (B2 := 2) (ex_get hf hc (by unfold TOP at hk; omega) _) (fun x k' _ h1 h2 hc' hf' _ => ?_)
    exact ex_bnd (B1 := 1) (B2 := 1) (ex_put (by rw [hf']; exact hf) hc' (by unfold TOP at hk; omega) a x) (fun _ k'' _ _ _ hc'' hf'' _ => ex_put (by rw [hf'', hf']; exact hf) hc'' (by unfold TOP at hk; omega) _ _)
theorem ex_empty (hf : s.f < 0) (hc : Cn s k) (hk : k + 2 < TOP) (l : Int) : Ex (emptyU l) () s k 2 := by
  refine ex_eq (G := bnd (putU l 0) (fun _ => putU (ld l) 0) ()) (fun s => ?_) ?_
  · unfold emptyU Wd.empty bnd putU
    by_cases h1 : (s.put l 0).1 = 0 <;> simp [h1]
  · exact ex_bnd (B1 := 1) (B2 := 1) (ex_put hf hc (by unfold TOP at hk; omega) _ _) (fun _ k' _ _ _ hc' hf' _ => ex_put (by rw [hf']; exact hf) hc' (by unfold TOP at hk; omega) _ _)
theorem ex_hang (hf : s.f < 0) (hc : Cn s k) (hk : k + 3 < TOP) (t : Sp) (node key : Int) : Ex (hangU t node key) () s k 3 := by
  refine ex_eq (G := bnd (putU node key) (fun _ => bnd (putU (ld node) t.n) (fun _ => putU t.l (uw (node + 1))) ()) ()) (fun s => ?_) ?_
  · unfold hangU Wd.hang bnd putU
    by_cases h1 : (s.put node key).1 = 0
    · by_cases h2 : ((s.put node key).2.put (ld node) t.n).1 = 0 <;> simp [h1, h2]
    · simp [h1]
  · refine ex_bnd (B1 := 1) (B2 := 2) (ex_put hf hc (by unfold TOP at hk; omega) _ _) (fun _ k' _ h1 h2 hc' hf' _ => ?_)
    exact ex_bnd (B1 := 1) (B2 := 1) (ex_put (by rw [hf']; exact hf) hc' (by unfold TOP at hk; omega) _ _) (fun _ k'' _ _ _ hc'' hf'' _ => ex_put (by rw [hf'', hf']; exact hf) hc'' (by unfold TOP at hk; omega) _ _)
theorem ex_unhang (hf : s.f < 0) (hc : Cn s k) (hk : k + 2 < TOP) (t : Sp) : Ex (unhangU t) () s k 2 := by
  refine ex_eq (G := bnd (fun s => s.get (ld t.nd)) (fun x => putU t.l x) ()) (fun s => ?_) ?_
  · unfold unhangU Wd.unhang bnd putU
    by_cases h1 : (s.get (ld t.nd)).1.2 = 0 <;> simp [h1]
  · exact ex_bnd (B1 := 1) (B2 := 1) (ex_get hf hc (by unfold TOP at hk; omega) _) (fun _ k' _ _ _ hc' hf' _ => ex_put (by rw [hf']; exact hf) hc' (by unfold TOP at hk; omega) _ _)
theorem ex_recount (hf : s.f < 0) (hc : Cn s k) (hk : k + 2 < TOP) (l m : Int) : Ex (recountU l m) () s k 2 := by
  refine ex_eq (G := bnd (fun s => s.get l) (fun x => putU l (uw (x + m))) ()) (fun s => ?_) ?_
  · unfold recountU Wd.recount bnd putU
    by_cases h1 : (s.get l).1.2 = 0 <;> simp [h1]
  · exact ex_bnd (B1 := 1) (B2 := 1) (ex_get hf hc (by unfold TOP at hk; omega) _) (fun _ k' _ _ _ hc' hf' _ => ex_put (by rw [hf']; exact hf) hc' (by unfold TOP at hk; omega) _ _)
theorem ex_new (hf : s.f < 0) (hc : Cn s k) (hk : k + 6 < TOP) (r : Int) : Ex (fun s => s.new r) 0 s k 6 := by
  refine ex_eq (G := bnd (fun s => s.take r 2) (fun x => bnd (emptyU x) (fun _ => rtn x) 0) 0) (fun s => ?_) ?_
  · unfold Wd.new bnd emptyU rtn
    simp only [ne_eq]
  · refine ex_bnd (B1 := 4) (B2 := 2) (ex_take hf hc (by omega) r) (fun x k' _ h1 h2 hc' hf' _ => ?_)
    exact ex_bnd (B1 := 2) (B2 := 0) (ex_empty (by rw [hf']; exact hf) hc' (by omega) x) (fun _ k'' _ _ _ hc'' _ _ => ex_rtn _ _ hc'' 0)
theorem ex_len (hf : s.f < 0) (hc : Cn s k) (hk : k + 1 < TOP) (l : Int) : Ex (fun s => s.len l) 0 s k 1 := by
  refine ex_eq (G := bnd (fun s => s.get l) (fun x => rtn x) 0) (fun s => ?_) ?_
  · unfold Wd.len bnd rtn
    simp only [ne_eq]
  · exact ex_bnd (B1 := 1) (B2 := 0) (ex_get hf hc (by unfold TOP at hk; omega) _) (fun _ k' _ _ _ hc' _ _ => ex_rtn _ _ hc' 0)
theorem ex_follow (hf : s.f < 0) (hc : Cn s k) (hk : k + 2 < TOP) (a : Int) : Ex (fun s => s.follow a) Sp.zero s k 2 := by
  refine ex_eq (G := bnd (fun s => s.get a) (fun x => if x = 0 then rtn ⟨a, 0, 0⟩ else bnd (fun s => s.get (uw (x - 1))) (fun y => rtn ⟨a, x, y⟩) Sp.zero) Sp.zero) (fun s => ?_) ?_
  · unfold Wd.follow bnd rtn
    by_cases h1 : (s.get a).1.2 = 0
    · by_cases h2 : (s.get a).1.1 = 0 <;> simp [h1, h2]
    · simp [h1]
  · refine ex_bnd (B1 := 1) (B2 := 1) (ex_get hf hc (by unfold TOP at hk; omega) a) (fun x k' _ h1 h2 hc' hf' _ => ?_)
    split
    · exact ex_rtn _ _ hc' 1
    · exact ex_bnd (B1 := 1) (B2 := 0) (ex_get (by rw [hf']; exact hf) hc' (by unfold TOP at hk; omega) _) (fun _ k'' _ _ _ hc'' _ _ => ex_rtn _ _ hc'' 0)
end
end Go.Proofs.Ytbdekpccddmehaa
