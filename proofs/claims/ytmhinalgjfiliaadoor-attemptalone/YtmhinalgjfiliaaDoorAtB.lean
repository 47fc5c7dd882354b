
/-
  Small calls of the program's attempts: made, idle, Phase, goOn, over, table, there. No statement of the seat is proved here.
-/
import Derived.Test.YtmhinalgjfiliaaDoorAtA
import Derived.Test.YtmhinalgjfiliaaDoorAtT
namespace Go.Proofs.YtmhinalgjfiliaaDoor
open Go.RowKit Go.Shelf

set_option maxHeartbeats 400000 in
theorem made_nil (w : World) : Calls Tryd.prog 36 #[.pointer none] w fun e w' => e = .returned (.bool false) ∧ w' = w := by
  go_enter Tryd.func36, Tryd.ntmps36
  go_wp2
  go_ret
  exact ⟨rfl, rfl⟩
set_option maxHeartbeats 400000 in
theorem made_at (a : Nat) (p : Int) (w : World) (h : w.cell? ⟨a, 5, none⟩ = some (.int .i64 p)) : Calls Tryd.prog 36 #[.pointer (some ⟨a, 0, none⟩)] w fun e w' => e = .returned (.bool (p != 0)) ∧ w' = w := by
  go_enter Tryd.func36, Tryd.ntmps36
  go_wp2
  go_ret
  exact ⟨rfl, rfl⟩
theorem ph_ne {p : Int} (h : p ≠ 0) : (p != 0) = true := by simp [h]
set_option maxHeartbeats 400000 in
theorem idle_yes (a : Nat) (w : World) (h : w.cell? ⟨a, 5, none⟩ = some (.int .i64 1)) : Calls Tryd.prog 27 #[.pointer (some ⟨a, 0, none⟩)] w fun e w' => e = .returned (.int .i64 0) ∧ w' = w := by
  have hm := made_at a 1 w h
  rw [ph_ne (by decide)] at hm
  go_enter Tryd.func27, Tryd.ntmps27
  go_wp2_with (go_at_call 36; refine hm.mono ?_; rintro e w' ⟨rfl, hw'⟩; replace hw' := hw'.symm; subst hw')
  go_ret
  exact ⟨rfl, rfl⟩
set_option maxHeartbeats 400000 in
theorem idle_no (a : Nat) (p : Int) (w : World) (h : w.cell? ⟨a, 5, none⟩ = some (.int .i64 p)) (h0 : p ≠ 0) (h1 : p ≠ 1) : Calls Tryd.prog 27 #[.pointer (some ⟨a, 0, none⟩)] w fun e w' => e = .returned (.int .i64 2) ∧ w' = w := by
  have hm := made_at a p w h
  rw [ph_ne h0] at hm
  have h2 : (p != 1) = true := by simp [h1]
  go_enter Tryd.func27, Tryd.ntmps27
  go_wp2_with (go_at_call 36; refine hm.mono ?_; rintro e w' ⟨rfl, hw'⟩; replace hw' := hw'.symm; subst hw')
  go_ret
  exact ⟨rfl, rfl⟩
set_option maxHeartbeats 400000 in
theorem phase_at (a : Nat) (p : Int) (w : World) (h : w.cell? ⟨a, 5, none⟩ = some (.int .i64 p)) (h0 : p ≠ 0) : Calls Tryd.prog 17 #[.pointer (some ⟨a, 0, none⟩)] w fun e w' => e = .returned (.int .i64 p) ∧ w' = w := by
  have hm := made_at a p w h
  rw [ph_ne h0] at hm
  go_enter Tryd.func17, Tryd.ntmps17
  go_wp2_with (go_at_call 36; refine hm.mono ?_; rintro e w' ⟨rfl, hw'⟩; replace hw' := hw'.symm; subst hw')
  go_ret
  exact ⟨rfl, rfl⟩

/-- A stand as it is handed on. -/
def standV (p t d x f i : Int) : Value := .agg #[.int .i64 p, .int .i64 t, .int .u64 d, .int .u64 x, .int .u64 f, .int .i64 i]
/-- The six cells of the stand, written. -/
def setStand (w : World) (a : Nat) (p t d x f i : Int) : World :=
  (((((w.setCell ⟨a, 5, none⟩ (.int .i64 p)).setCell ⟨a, 6, none⟩ (.int .i64 t)).setCell ⟨a, 7, none⟩ (.int .u64 d)).setCell ⟨a, 8, none⟩ (.int .u64 x)).setCell ⟨a, 9, none⟩ (.int .u64 f)).setCell ⟨a, 10, none⟩ (.int .i64 i)
theorem setStand_keeps (w : World) (a : Nat) (p t d x f i : Int) : Keeps (fun q => q = a) w (setStand w a p t d x f i) :=
  ((((((Keeps.refl (fun q => q = a) w).setCell (p := ⟨a, 5, none⟩) (.inr rfl) _).setCell (p := ⟨a, 6, none⟩) (.inr rfl) _).setCell (p := ⟨a, 7, none⟩) (.inr rfl) _).setCell (p := ⟨a, 8, none⟩) (.inr rfl) _).setCell (p := ⟨a, 9, none⟩) (.inr rfl) _).setCell (p := ⟨a, 10, none⟩) (.inr rfl) _
theorem setStand_block {w : World} {a rb ck rr dr : Nat} {S : Sd} {ty : TypeId} (h : w.heap[a]? = some (.cells (attV a rb ck rr dr S) ty (0, 0))) (p t d x f i : Int) :
    (setStand w a p t d x f i).heap[a]? = some (.cells (attV a rb ck rr dr ⟨S.sn, S.rd, S.wr, p, t, d, x, f, i⟩) ty (0, 0)) :=
  block_set (block_set (block_set (block_set (block_set (block_set h 5 _) 6 _) 7 _) 8 _) 9 _) 10 _
/-- The stand of a state. -/
def Sd.to (S : Sd) (p t d x f i : Int) : Sd := ⟨S.sn, S.rd, S.wr, p, t, d, x, f, i⟩
theorem AttX.stand {w : World} {a rr dr : Nat} {R : Sh} {L : List (Int × Int)} {Or Od : Nat → Prop} {S : Sd} (h : AttX w a R rr dr L Or Od S) (p t d x f i : Int) : AttX (setStand w a p t d x f i) a R rr dr L Or Od (S.to p t d x f i) :=
  h.write (setStand_keeps _ _ _ _ _ _ _ _) (setStand_block h.box _ _ _ _ _ _) rfl rfl

/-- The cells of the stand. -/
theorem AttX.sc {w : World} {a rr dr : Nat} {R : Sh} {L : List (Int × Int)} {Or Od : Nat → Prop} {S : Sd} (h : AttX w a R rr dr L Or Od S) :
    w.cell? ⟨a, 5, none⟩ = some (.int .i64 S.ph) ∧ w.cell? ⟨a, 6, none⟩ = some (.int .i64 S.th) ∧ w.cell? ⟨a, 7, none⟩ = some (.int .u64 S.ad) ∧ w.cell? ⟨a, 8, none⟩ = some (.int .u64 S.wo) ∧ w.cell? ⟨a, 9, none⟩ = some (.int .u64 S.fo) ∧ w.cell? ⟨a, 10, none⟩ = some (.int .i64 S.pl) :=
  ⟨h.cell 5, h.cell 6, h.cell 7, h.cell 8, h.cell 9, h.cell 10⟩
theorem AttX.sf {w : World} {a rr dr : Nat} {R : Sh} {L : List (Int × Int)} {Or Od : Nat → Prop} {S : Sd} (h : AttX w a R rr dr L Or Od S) :
    w.frozen? ⟨a, 5, none⟩ = false ∧ w.frozen? ⟨a, 6, none⟩ = false ∧ w.frozen? ⟨a, 7, none⟩ = false ∧ w.frozen? ⟨a, 8, none⟩ = false ∧ w.frozen? ⟨a, 9, none⟩ = false ∧ w.frozen? ⟨a, 10, none⟩ = false :=
  ⟨h.fr 5, h.fr 6, h.fr 7, h.fr 8, h.fr 9, h.fr 10⟩

set_option maxHeartbeats 1000000 in
theorem goOn_at (a rr dr : Nat) (R : Sh) (L : List (Int × Int)) (Or Od : Nat → Prop) (S : Sd) (p t d x f i : Int) (w : World) (h : AttX w a R rr dr L Or Od S) :
    Calls Tryd.prog 54 #[.pointer (some ⟨a, 0, none⟩), standV p t d x f i] w fun e w' => e = .returned (.tuple #[turnV 1 0 0 0 0 false, .int .i64 0]) ∧ AttX w' a R rr dr L Or Od (S.to p t d x f i) ∧ Keeps (fun q => q = a) w w' := by
  obtain ⟨c5, c6, c7, c8, c9, c10⟩ := h.sc
  obtain ⟨f5, f6, f7, f8, f9, f10⟩ := h.sf
  have hlt := lt_of_block h.box
  have HE : Hid (∀ o o', AttX (((setStand w a p t d x f i).alloc o).alloc o') a R rr dr L Or Od (S.to p t d x f i) ∧ Keeps (fun q => q = a) w (((setStand w a p t d x f i).alloc o).alloc o')) := fun o o' =>
    ⟨(h.stand p t d x f i).kept (((Keeps.refl (fun _ => False) _).alloc o).alloc o') (fun _ _ f => f), ((setStand_keeps _ _ _ _ _ _ _ _).alloc o).alloc o'⟩
  clear h
  unfold standV
  go_enter Tryd.func54, Tryd.ntmps54
  go_wp2
  refine bodyPost_ret (v := .tuple #[turnV 1 0 0 0 0 false, .int .i64 0]) (by rw [results_cell_tmp rfl]; unfold turnV; go_simp) rfl ?_
  exact ⟨rfl, HE.out _ _⟩

theorem size_att : (Tryd.prog.info? 80).map (·.size) = some 22 := by kernel_rfl
theorem wpList_store_row' {P : Program} {ops : Array Oper} {rest : List Oper} {op : Oper} {a : Act} {w : World} {Q : Exit → Act → World → Prop} (hgd : op.guard = none) (ty : TypeId) (x y : Operand) (ho : op.op = .store ty x y)
    (g : Nat) (cells : Array Value) (hx : a.eval x = .pointer (some ⟨g, 0, none⟩)) (hy : a.eval y = .agg cells) (t : TypeId) (old : Array Value) (hg : w.heap[g]? = some (.cells old t (0, 0))) (hi : (P.info? ty).map (·.size) = some cells.size)
    (hold : old.size = cells.size) (h1 : cells.all (·.oneCell') = true) (h : wpList P ops Q rest (a.put op.dst undef) (w.setRow g cells)) : wpList P ops Q (op :: rest) a w :=
  wpList_plain hgd fun _ hK => wp_store_row ty x y ho g cells hx hy t old hg hi hold h1 (hK _ _ h)
theorem over_one : overV.all (·.oneCell') = true := by simp [overV, Value.oneCell']
theorem setRow_keeps' {w : World} {a : Nat} (cs : Array Value) : Keeps (fun q => q = a) w (w.setRow a cs) :=
  ⟨rfl, rfl, rfl, by simp [World.setRow], fun k _ hk => by simp [World.setRow, Array.getElem?_modify, show ¬ a = k from fun e => hk e.symm]⟩

set_option maxRecDepth 100000 in
set_option maxHeartbeats 400000 in
theorem over_at (a : Nat) (old : Array Value) (w : World) (h : w.heap[a]? = some (.cells old 80 (0, 0))) (ho : old.size = 22) :
    Calls Tryd.prog 55 #[.pointer (some ⟨a, 0, none⟩)] w fun e w' => e = .returned (.tuple #[]) ∧ w'.heap[a]? = some (.cells overV 80 (0, 0)) ∧ Keeps (fun q => q = a) w w' := by
  have HE : Hid ((w.setRow a overV).heap[a]? = some (.cells overV 80 (0, 0)) ∧ Keeps (fun q => q = a) w (w.setRow a overV)) :=
    ⟨setRow_heap w a old overV 80 (0, 0) h, setRow_keeps' overV⟩
  go_enter Tryd.func55, Tryd.ntmps55
  go_wp2_with (refine wpList_store_row' rfl 80 _ _ rfl a overV rfl rfl 80 old h size_att ho over_one ?_)
  go_end0
  exact ⟨rfl, HE.out⟩
end Go.Proofs.YtmhinalgjfiliaaDoor
