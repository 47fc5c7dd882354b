
/- Walk of the document's Read (package parleyref09). No statement of the seat is proved here. -/
import Derived.Test.YtkkmkfldldglgaaGreatDoorAwI
import Derived.Test.YtkkmkfldldglgaaGreatDoorAwN
namespace Go.Proofs.YtkkmkfldldglgaaGreatDoor
open Go.RowKit Go.Shelf

/-- What Read answers. -/
def RePost (s : List UInt8) (w : World) (e : Ending) (w' : World) : Prop := match readT s with
  | (n, some (code, labs)) => ∃ vc vl, e = .returned (.tuple #[vc, vl, .int .i64 (n : Int), .bool true]) ∧ Irs w' w.heap.size vc code ∧ w'.ownsRow w.heap.size 39 2 vl labs.length (labV labs) ∧ (∀ i ∈ code, i.wf)
  | (n, none) => e = .returned (.tuple #[.slice none 0 0, .slice none 0 0, .int .i64 (n : Int), .bool false])
def strLen : Value → Nat
  | .string b => b.size
  | _ => 0
/-- What the lines so far have left. -/
structure RdS (s : List UInt8) (base : Nat) (w0 : World) (vp vl vn va vi : Value) (r : Rd) (n f : Nat) (W : World) : Prop where
  rows : DR W base vp vl vn va vi r
  kept : Keeps (fun _ => False) w0 W
  reads : readR ⟨[], [], []⟩ 0 (linesL s) = readR r n (linesL (s.drop f))
  labs : r.labs.length ≤ f
  code : r.code.length ≤ n
  uses : r.uses.length ≤ n
/-- What stands while labels are put in the place of targets. -/
structure UsS (base : Nat) (w0 : World) (vp vl vn va vi : Value) (r : Rd) (code' : List I5) (k : Nat) (W : World) : Prop where
  rows : DR W base vp vl vn va vi { r with code := code' }
  kept : Keeps (fun _ => False) w0 W
  len : code'.length = r.code.length
  res : resR r.labs r.code r.uses = resR r.labs code' (r.uses.drop k)
theorem resR_no {labs : List (List UInt8 × Nat)} {code : List I5} {us : List (List UInt8 × Nat × Nat)} {k : Nat} (hk : k < us.length) (h : labs.lookup (us[k]).1 = none) : resR labs code (us.drop k) = (some (us[k]).2.2, code) := by
  rw [List.drop_eq_getElem_cons hk]
  generalize us[k] = u at *
  obtain ⟨a, b, c⟩ := u
  dsimp only at h ⊢
  rw [resR, h]
theorem resR_yes {labs : List (List UInt8 × Nat)} {code : List I5} {us : List (List UInt8 × Nat × Nat)} {k p : Nat} (hk : k < us.length) (h : labs.lookup (us[k]).1 = some p) : resR labs code (us.drop k) = resR labs (setN code (us[k]).2.1 p) (us.drop (k + 1)) := by
  rw [List.drop_eq_getElem_cons hk]
  generalize us[k] = u at *
  obtain ⟨a, b, c⟩ := u
  dsimp only at h ⊢
  rw [resR, h]
theorem readT_bad {s : List UInt8} {n : Nat} (h : readR ⟨[], [], []⟩ 0 (linesL s) = (n, none)) : readT s = (n, none) := by
  unfold readT; rw [h]
theorem readT_res {s : List UInt8} {n : Nat} {r : Rd} (h : readR ⟨[], [], []⟩ 0 (linesL s) = (n, some r)) : readT s = match resR r.labs r.code r.uses with
    | (some line, _) => (line, none)
    | (none, code) => (n, some (code, r.labs)) := by
  unfold readT; rw [h]
  dsimp only
  cases resR r.labs r.code r.uses with
  | mk a b => cases a <;> rfl

/-- What stands while the labels of a line are taken. -/
structure RdC (m : Nat) (base : Nat) (w0 : World) (vp vl vn va vi : Value) (r r1 : Rd) (n : Nat) (body q : List UInt8) (W : World) : Prop where
  rows : DR W base vp vl vn va vi r1
  kept : Keeps (fun _ => False) w0 W
  reads : colR r n body = colR r1 n q
  code : r1.code = r.code
  uses : r1.uses = r.uses
  labs : r1.labs.length + q.length ≤ m
theorem RdC.keeps {m base : Nat} {w0 : World} {vp vl vn va vi : Value} {r r1 : Rd} {n : Nat} {body q : List UInt8} {W W' : World} (h : RdC m base w0 vp vl vn va vi r r1 n body q W) (k : Keeps (fun _ => False) W W') : RdC m base w0 vp vl vn va vi r r1 n body q W' :=
  ⟨h.rows.keeps k, h.kept.trans k, h.reads, h.code, h.uses, h.labs⟩
/-- A whole row stored; the world behind it has a name. -/
theorem wpList_store_rowX {P : Program} {ops : Array Oper} {rest : List Oper} {op : Oper} {a : Act} {w X : World} {Q : Exit → Act → World → Prop} (hgd : op.guard = none) (ty : TypeId) (x y : Operand) (ho : op.op = .store ty x y)
    (g : Nat) (cells : Array Value) (hx : a.eval x = .pointer (some ⟨g, 0, none⟩)) (hy : a.eval y = .agg cells) (t : TypeId) (old : Array Value) (hg : w.heap[g]? = some (.cells old t (0, 0))) (hi : (P.info? ty).map (·.size) = some cells.size)
    (hold : old.size = cells.size) (h1 : cells.all (·.oneCell') = true) (hX : X = w.setRow g cells) (h : wpList P ops Q rest (a.put op.dst undef) X) : wpList P ops Q (op :: rest) a w :=
  wpList_store_row' hgd ty x y ho g cells hx hy t old hg hi hold h1 (hX ▸ h)
theorem results_tmp4 {fn : Func} {p u v x : Tmp} (h : fn.results = #[.tmp p, .tmp u, .tmp v, .tmp x]) (tmps : Array Value) (P : Program) (w : World) :
    (results fn tmps).run P w = .ok (.tuple #[tmps.getD p undef, tmps.getD u undef, tmps.getD v undef, tmps.getD x undef]) w := by
  simp only [results, h]
  simp

set_option maxRecDepth 100000 in
set_option maxHeartbeats 20000000 in
theorem rread_any (s : List UInt8) (hs : s.length ≤ 20000) (w : World) : Calls Tryz.prog 12 #[.string ⟨s.toArray⟩] w fun e w' => RePost s w e w' ∧ Keeps (fun _ => False) w w' := by
  have hmx : Tryz.prog.follows .mixedOrders = true := by kernel_rfl
  have hsz := size_of s
  have HBAD : Hid (∀ (n : Nat) W, readR ⟨[], [], []⟩ 0 (linesL s) = (n, none) → RePost s w (.returned (.tuple #[.slice none 0 0, .slice none 0 0, .int .i64 (n : Int), .bool false])) W) := fun n W q => by unfold RePost; rw [readT_bad q]
  have HBD2 : Hid (∀ (n : Nat) W, readT s = (n, none) → RePost s w (.returned (.tuple #[.slice none 0 0, .slice none 0 0, .int .i64 (n : Int), .bool false])) W) := fun n W q => by unfold RePost; rw [q]
  have HOK : Hid (∀ (n : Nat) code labs vc vl W, readT s = (n, some (code, labs)) → Irs W w.heap.size vc code → W.ownsRow w.heap.size 39 2 vl labs.length (labV labs) → (∀ i ∈ code, i.wf) → RePost s w (.returned (.tuple #[vc, vl, .int .i64 (n : Int), .bool true])) W) := fun n code labs vc vl W q h1 h2 h3 => by unfold RePost; rw [q]; exact ⟨vc, vl, rfl, h1, h2, h3⟩
  go_enter Tryz.func12, Tryz.ntmps12
  go_wp2_with fail
  go_loopw [6, 7, 8, 9, 10, 11, 12] (fun a6 a7 a8 a9 a10 a11 a12 wr => ∃ (vp vl vn va vi : Value) (r : Rd) (n f : Nat), vp = a6 ∧ vl = a7 ∧ vn = a8 ∧ va = a9 ∧ vi = a10 ∧ a11 = .int .i64 (n : Int) ∧ a12 = .int .i64 (f : Int) ∧ f ≤ s.length + 1 ∧ n ≤ f ∧ Hid (RdS s w.heap.size w vp vl vn va vi r n f wr)) (fun _ _ _ _ _ _ a12 _ => s.length + 1 - (intOf a12).toNat)
  case atStart => exact ⟨_, _, _, _, _, ⟨[], [], []⟩, 0, 0, rfl, rfl, rfl, rfl, rfl, rfl, rfl, Nat.zero_le _, Nat.le_refl _, ⟨DR.nil w, Keeps.refl _ _, by simp, Nat.le_refl _, Nat.le_refl _, Nat.le_refl _⟩⟩
  case round =>
    obtain ⟨vp, vl, vn, va, vi, r, n, f, rfl, rfl, rfl, rfl, rfl, rfl, rfl, hf, hnf, hh⟩ := hrel
    by_cases hlt : f < s.length
    · have hfi : (f : Int) < s.length := by omega
      have hn2 : n ≤ 20000 := by omega
      have hf2 : f ≤ 20000 := by omega
      obtain ⟨pb, pc, rfl⟩ := hh.out.rows.code.form
      clear HOK HBD2
      go_wp2_with fail
      refine Code.wp_mono (Q := fun ex a' w' => ex = Exit.exit 2 ∧ (∃ u2 : Value, ∃ u3 : Value, ∃ u4 : Value, ∃ u5 : Value, ∃ u13 : Value, ∃ u14 : Value, ∃ u15 : Value, ∃ u16 : Value, ∃ u17 : Value, ∃ u18 : Value, ∃ u19 : Value, ∃ u20 : Value, ∃ u21 : Value, ∃ u22 : Value, ∃ u25 : Value, ∃ u26 : Value, ∃ u27 : Value, ∃ u28 : Value, ∃ u29 : Value, ∃ u30 : Value, ∃ u31 : Value, ∃ u32 : Value, ∃ u33 : Value, ∃ u34 : Value, ∃ u35 : Value, ∃ u36 : Value, ∃ u37 : Value, ∃ u38 : Value, ∃ u39 : Value, ∃ u40 : Value, ∃ u41 : Value, ∃ u42 : Value, ∃ u43 : Value, ∃ u44 : Value, ∃ u45 : Value, ∃ u46 : Value, ∃ u47 : Value, ∃ u48 : Value, ∃ u49 : Value, ∃ u50 : Value, ∃ u51 : Value, ∃ u52 : Value, ∃ u53 : Value, ∃ u54 : Value, ∃ u55 : Value, ∃ u56 : Value, ∃ u57 : Value, ∃ u58 : Value, ∃ u59 : Value, ∃ u60 : Value, ∃ u61 : Value, ∃ u62 : Value, ∃ u63 : Value, ∃ u64 : Value, ∃ u65 : Value, ∃ u66 : Value, ∃ u67 : Value, ∃ u68 : Value, ∃ u69 : Value, ∃ u70 : Value, ∃ u71 : Value, ∃ u72 : Value, ∃ u73 : Value, ∃ u74 : Value, ∃ u75 : Value, ∃ u76 : Value, ∃ u77 : Value, ∃ u78 : Value, ∃ u79 : Value, ∃ u80 : Value, ∃ u81 : Value, ∃ u82 : Value, ∃ u83 : Value, ∃ u84 : Value, ∃ u85 : Value, ∃ u86 : Value, ∃ u87 : Value, ∃ u88 : Value, ∃ u89 : Value, ∃ u90 : Value, ∃ u91 : Value, ∃ u92 : Value, ∃ u93 : Value, ∃ u94 : Value, ∃ u95 : Value, ∃ u96 : Value, ∃ u97 : Value, ∃ u98 : Value, ∃ u99 : Value, ∃ u100 : Value, ∃ u101 : Value, ∃ u102 : Value, ∃ u103 : Value, ∃ u104 : Value, ∃ u105 : Value, ∃ u106 : Value, ∃ u107 : Value, ∃ u108 : Value, ∃ u109 : Value, ∃ u110 : Value, ∃ u111 : Value, ∃ u112 : Value, ∃ u113 : Value, ∃ u114 : Value, ∃ u115 : Value, ∃ u116 : Value, ∃ u117 : Value, ∃ u118 : Value, ∃ u119 : Value, ∃ u120 : Value, ∃ u121 : Value, ∃ u122 : Value, ∃ u123 : Value, ∃ u124 : Value, ∃ u125 : Value, ∃ u126 : Value, ∃ u127 : Value, ∃ u128 : Value, ∃ u129 : Value, ∃ u130 : Value, ∃ u131 : Value, ∃ u132 : Value, ∃ u133 : Value, ∃ u134 : Value, ∃ u135 : Value, ∃ u136 : Value, ∃ u137 : Value, ∃ u138 : Value, ∃ u139 : Value, (∃ t : Nat, u13 = .int .i64 (t : Int) ∧ f ≤ t ∧ t ≤ s.length ∧ wr = w' ∧ Hid (∀ j (hj : j < s.length), f ≤ j → j < t → s[j] ≠ 10) ∧ Hid (∀ h : t < s.length, s[t] = 10)) ∧ a' = ⟨#[.string ⟨s.toArray⟩, undef, u2, u3, u4, u5, .slice pb r.code.length pc, vl, vn, va, vi, .int .i64 (n : Int), .int .i64 (f : Int), u13, u14, u15, u16, u17, u18, u19, u20, u21, u22, undef, undef, u25, u26, u27, u28, u29, u30, u31, u32, u33, u34, u35, u36, u37, u38, u39, u40, u41, u42, u43, u44, u45, u46, u47, u48, u49, u50, u51, u52, u53, u54, u55, u56, u57, u58, u59, u60, u61, u62, u63, u64, u65, u66, u67, u68, u69, u70, u71, u72, u73, u74, u75, u76, u77, u78, u79, u80, u81, u82, u83, u84, u85, u86, u87, u88, u89, u90, u91, u92, u93, u94, u95, u96, u97, u98, u99, u100, u101, u102, u103, u104, u105, u106, u107, u108, u109, u110, u111, u112, u113, u114, u115, u116, u117, u118, u119, u120, u121, u122, u123, u124, u125, u126, u127, u128, u129, u130, u131, u132, u133, u134, u135, u136, u137, u138, u139, undef, undef, undef, undef, undef, undef, undef, undef, undef, undef, undef, undef, undef, undef, undef, undef, undef, undef, undef, undef, undef, undef, undef, undef, undef, undef, undef, undef, undef, undef], []⟩)) ?_ ?_
      · rintro ex a' w' ⟨rfl, hj⟩
        obtain ⟨u2, hj⟩ := hj
        obtain ⟨u3, hj⟩ := hj
        obtain ⟨u4, hj⟩ := hj
        obtain ⟨u5, hj⟩ := hj
        obtain ⟨u13, hj⟩ := hj
        obtain ⟨u14, hj⟩ := hj
        obtain ⟨u15, hj⟩ := hj
        obtain ⟨u16, hj⟩ := hj
        obtain ⟨u17, hj⟩ := hj
        obtain ⟨u18, hj⟩ := hj
        obtain ⟨u19, hj⟩ := hj
        obtain ⟨u20, hj⟩ := hj
        obtain ⟨u21, hj⟩ := hj
        obtain ⟨u22, hj⟩ := hj
        obtain ⟨u25, hj⟩ := hj
        obtain ⟨u26, hj⟩ := hj
        obtain ⟨u27, hj⟩ := hj
        obtain ⟨u28, hj⟩ := hj
        obtain ⟨u29, hj⟩ := hj
        obtain ⟨u30, hj⟩ := hj
        obtain ⟨u31, hj⟩ := hj
        obtain ⟨u32, hj⟩ := hj
        obtain ⟨u33, hj⟩ := hj
        obtain ⟨u34, hj⟩ := hj
        obtain ⟨u35, hj⟩ := hj
        obtain ⟨u36, hj⟩ := hj
        obtain ⟨u37, hj⟩ := hj
        obtain ⟨u38, hj⟩ := hj
        obtain ⟨u39, hj⟩ := hj
        obtain ⟨u40, hj⟩ := hj
        obtain ⟨u41, hj⟩ := hj
        obtain ⟨u42, hj⟩ := hj
        obtain ⟨u43, hj⟩ := hj
        obtain ⟨u44, hj⟩ := hj
        obtain ⟨u45, hj⟩ := hj
        obtain ⟨u46, hj⟩ := hj
        obtain ⟨u47, hj⟩ := hj
        obtain ⟨u48, hj⟩ := hj
        obtain ⟨u49, hj⟩ := hj
        obtain ⟨u50, hj⟩ := hj
        obtain ⟨u51, hj⟩ := hj
        obtain ⟨u52, hj⟩ := hj
        obtain ⟨u53, hj⟩ := hj
        obtain ⟨u54, hj⟩ := hj
        obtain ⟨u55, hj⟩ := hj
        obtain ⟨u56, hj⟩ := hj
        obtain ⟨u57, hj⟩ := hj
        obtain ⟨u58, hj⟩ := hj
        obtain ⟨u59, hj⟩ := hj
        obtain ⟨u60, hj⟩ := hj
        obtain ⟨u61, hj⟩ := hj
        obtain ⟨u62, hj⟩ := hj
        obtain ⟨u63, hj⟩ := hj
        obtain ⟨u64, hj⟩ := hj
        obtain ⟨u65, hj⟩ := hj
        obtain ⟨u66, hj⟩ := hj
        obtain ⟨u67, hj⟩ := hj
        obtain ⟨u68, hj⟩ := hj
        obtain ⟨u69, hj⟩ := hj
        obtain ⟨u70, hj⟩ := hj
        obtain ⟨u71, hj⟩ := hj
        obtain ⟨u72, hj⟩ := hj
        obtain ⟨u73, hj⟩ := hj
        obtain ⟨u74, hj⟩ := hj
        obtain ⟨u75, hj⟩ := hj
        obtain ⟨u76, hj⟩ := hj
        obtain ⟨u77, hj⟩ := hj
        obtain ⟨u78, hj⟩ := hj
        obtain ⟨u79, hj⟩ := hj
        obtain ⟨u80, hj⟩ := hj
        obtain ⟨u81, hj⟩ := hj
        obtain ⟨u82, hj⟩ := hj
        obtain ⟨u83, hj⟩ := hj
        obtain ⟨u84, hj⟩ := hj
        obtain ⟨u85, hj⟩ := hj
        obtain ⟨u86, hj⟩ := hj
        obtain ⟨u87, hj⟩ := hj
        obtain ⟨u88, hj⟩ := hj
        obtain ⟨u89, hj⟩ := hj
        obtain ⟨u90, hj⟩ := hj
        obtain ⟨u91, hj⟩ := hj
        obtain ⟨u92, hj⟩ := hj
        obtain ⟨u93, hj⟩ := hj
        obtain ⟨u94, hj⟩ := hj
        obtain ⟨u95, hj⟩ := hj
        obtain ⟨u96, hj⟩ := hj
        obtain ⟨u97, hj⟩ := hj
        obtain ⟨u98, hj⟩ := hj
        obtain ⟨u99, hj⟩ := hj
        obtain ⟨u100, hj⟩ := hj
        obtain ⟨u101, hj⟩ := hj
        obtain ⟨u102, hj⟩ := hj
        obtain ⟨u103, hj⟩ := hj
        obtain ⟨u104, hj⟩ := hj
        obtain ⟨u105, hj⟩ := hj
        obtain ⟨u106, hj⟩ := hj
        obtain ⟨u107, hj⟩ := hj
        obtain ⟨u108, hj⟩ := hj
        obtain ⟨u109, hj⟩ := hj
        obtain ⟨u110, hj⟩ := hj
        obtain ⟨u111, hj⟩ := hj
        obtain ⟨u112, hj⟩ := hj
        obtain ⟨u113, hj⟩ := hj
        obtain ⟨u114, hj⟩ := hj
        obtain ⟨u115, hj⟩ := hj
        obtain ⟨u116, hj⟩ := hj
        obtain ⟨u117, hj⟩ := hj
        obtain ⟨u118, hj⟩ := hj
        obtain ⟨u119, hj⟩ := hj
        obtain ⟨u120, hj⟩ := hj
        obtain ⟨u121, hj⟩ := hj
        obtain ⟨u122, hj⟩ := hj
        obtain ⟨u123, hj⟩ := hj
        obtain ⟨u124, hj⟩ := hj
        obtain ⟨u125, hj⟩ := hj
        obtain ⟨u126, hj⟩ := hj
        obtain ⟨u127, hj⟩ := hj
        obtain ⟨u128, hj⟩ := hj
        obtain ⟨u129, hj⟩ := hj
        obtain ⟨u130, hj⟩ := hj
        obtain ⟨u131, hj⟩ := hj
        obtain ⟨u132, hj⟩ := hj
        obtain ⟨u133, hj⟩ := hj
        obtain ⟨u134, hj⟩ := hj
        obtain ⟨u135, hj⟩ := hj
        obtain ⟨u136, hj⟩ := hj
        obtain ⟨u137, hj⟩ := hj
        obtain ⟨u138, hj⟩ := hj
        obtain ⟨u139, hj⟩ := hj
        obtain ⟨⟨t, rfl, ht1, ht2, rfl, hq1, hq2⟩, rfl⟩ := hj
        go_wp2_with fail
        refine Code.wp_mono (Q := fun ex a' w' => ex = Exit.exit 4 ∧ (∃ u2 : Value, ∃ u3 : Value, ∃ u4 : Value, ∃ u5 : Value, ∃ u14 : Value, ∃ u15 : Value, ∃ u16 : Value, ∃ u17 : Value, ∃ u18 : Value, ∃ u19 : Value, ∃ u20 : Value, ∃ u21 : Value, ∃ u22 : Value, ∃ u25 : Value, ∃ u26 : Value, ∃ u27 : Value, ∃ u28 : Value, ∃ u29 : Value, ∃ u30 : Value, ∃ u31 : Value, ∃ u32 : Value, ∃ u33 : Value, ∃ u34 : Value, ∃ u35 : Value, ∃ u36 : Value, ∃ u37 : Value, ∃ u38 : Value, ∃ u39 : Value, ∃ u40 : Value, ∃ u41 : Value, ∃ u42 : Value, ∃ u43 : Value, ∃ u44 : Value, ∃ u45 : Value, ∃ u46 : Value, ∃ u47 : Value, ∃ u48 : Value, ∃ u49 : Value, ∃ u50 : Value, ∃ u51 : Value, ∃ u52 : Value, ∃ u53 : Value, ∃ u54 : Value, ∃ u55 : Value, ∃ u56 : Value, ∃ u57 : Value, ∃ u58 : Value, ∃ u59 : Value, ∃ u60 : Value, ∃ u61 : Value, ∃ u62 : Value, ∃ u63 : Value, ∃ u64 : Value, ∃ u65 : Value, ∃ u66 : Value, ∃ u67 : Value, ∃ u68 : Value, ∃ u69 : Value, ∃ u70 : Value, ∃ u71 : Value, ∃ u72 : Value, ∃ u73 : Value, ∃ u74 : Value, ∃ u75 : Value, ∃ u76 : Value, ∃ u77 : Value, ∃ u78 : Value, ∃ u79 : Value, ∃ u80 : Value, ∃ u81 : Value, ∃ u82 : Value, ∃ u83 : Value, ∃ u84 : Value, ∃ u85 : Value, ∃ u86 : Value, ∃ u87 : Value, ∃ u88 : Value, ∃ u89 : Value, ∃ u90 : Value, ∃ u91 : Value, ∃ u92 : Value, ∃ u93 : Value, ∃ u94 : Value, ∃ u95 : Value, ∃ u96 : Value, ∃ u97 : Value, ∃ u98 : Value, ∃ u99 : Value, ∃ u100 : Value, ∃ u101 : Value, ∃ u102 : Value, ∃ u103 : Value, ∃ u104 : Value, ∃ u105 : Value, ∃ u106 : Value, ∃ u107 : Value, ∃ u108 : Value, ∃ u109 : Value, ∃ u110 : Value, ∃ u111 : Value, ∃ u112 : Value, ∃ u113 : Value, ∃ u114 : Value, ∃ u115 : Value, ∃ u116 : Value, ∃ u117 : Value, ∃ u118 : Value, ∃ u119 : Value, ∃ u120 : Value, ∃ u121 : Value, ∃ u122 : Value, ∃ u123 : Value, ∃ u124 : Value, ∃ u125 : Value, ∃ u126 : Value, ∃ u127 : Value, ∃ u128 : Value, ∃ u129 : Value, ∃ u130 : Value, ∃ u131 : Value, ∃ u132 : Value, ∃ u133 : Value, ∃ u134 : Value, ∃ u135 : Value, ∃ u136 : Value, ∃ u137 : Value, ∃ u138 : Value, ∃ u139 : Value, (∃ e : Nat, u14 = .int .i64 (e : Int) ∧ f ≤ e ∧ e ≤ t ∧ wr = w' ∧ Hid (∀ j (hj : j < s.length), f ≤ j → j < e → s[j] ≠ 59) ∧ Hid (∀ h : e < s.length, e < t → s[e] = 59)) ∧ a' = ⟨#[.string ⟨s.toArray⟩, undef, u2, u3, u4, u5, .slice pb r.code.length pc, vl, vn, va, vi, .int .i64 (n : Int), .int .i64 (f : Int), .int .i64 (t : Int), u14, u15, u16, u17, u18, u19, u20, u21, u22, undef, undef, u25, u26, u27, u28, u29, u30, u31, u32, u33, u34, u35, u36, u37, u38, u39, u40, u41, u42, u43, u44, u45, u46, u47, u48, u49, u50, u51, u52, u53, u54, u55, u56, u57, u58, u59, u60, u61, u62, u63, u64, u65, u66, u67, u68, u69, u70, u71, u72, u73, u74, u75, u76, u77, u78, u79, u80, u81, u82, u83, u84, u85, u86, u87, u88, u89, u90, u91, u92, u93, u94, u95, u96, u97, u98, u99, u100, u101, u102, u103, u104, u105, u106, u107, u108, u109, u110, u111, u112, u113, u114, u115, u116, u117, u118, u119, u120, u121, u122, u123, u124, u125, u126, u127, u128, u129, u130, u131, u132, u133, u134, u135, u136, u137, u138, u139, undef, undef, undef, undef, undef, undef, undef, undef, undef, undef, undef, undef, undef, undef, undef, undef, undef, undef, undef, undef, undef, undef, undef, undef, undef, undef, undef, undef, undef, undef], []⟩)) ?_ ?_
        · rintro ex a' w' ⟨rfl, hj⟩
          obtain ⟨u2, hj⟩ := hj
          obtain ⟨u3, hj⟩ := hj
          obtain ⟨u4, hj⟩ := hj
          obtain ⟨u5, hj⟩ := hj
          obtain ⟨u14, hj⟩ := hj
          obtain ⟨u15, hj⟩ := hj
          obtain ⟨u16, hj⟩ := hj
          obtain ⟨u17, hj⟩ := hj
          obtain ⟨u18, hj⟩ := hj
          obtain ⟨u19, hj⟩ := hj
          obtain ⟨u20, hj⟩ := hj
          obtain ⟨u21, hj⟩ := hj
          obtain ⟨u22, hj⟩ := hj
          obtain ⟨u25, hj⟩ := hj
          obtain ⟨u26, hj⟩ := hj
          obtain ⟨u27, hj⟩ := hj
          obtain ⟨u28, hj⟩ := hj
          obtain ⟨u29, hj⟩ := hj
          obtain ⟨u30, hj⟩ := hj
          obtain ⟨u31, hj⟩ := hj
          obtain ⟨u32, hj⟩ := hj
          obtain ⟨u33, hj⟩ := hj
          obtain ⟨u34, hj⟩ := hj
          obtain ⟨u35, hj⟩ := hj
          obtain ⟨u36, hj⟩ := hj
          obtain ⟨u37, hj⟩ := hj
          obtain ⟨u38, hj⟩ := hj
          obtain ⟨u39, hj⟩ := hj
          obtain ⟨u40, hj⟩ := hj
          obtain ⟨u41, hj⟩ := hj
          obtain ⟨u42, hj⟩ := hj
          obtain ⟨u43, hj⟩ := hj
          obtain ⟨u44, hj⟩ := hj
          obtain ⟨u45, hj⟩ := hj
          obtain ⟨u46, hj⟩ := hj
          obtain ⟨u47, hj⟩ := hj
          obtain ⟨u48, hj⟩ := hj
          obtain ⟨u49, hj⟩ := hj
          obtain ⟨u50, hj⟩ := hj
          obtain ⟨u51, hj⟩ := hj
          obtain ⟨u52, hj⟩ := hj
          obtain ⟨u53, hj⟩ := hj
          obtain ⟨u54, hj⟩ := hj
          obtain ⟨u55, hj⟩ := hj
          obtain ⟨u56, hj⟩ := hj
          obtain ⟨u57, hj⟩ := hj
          obtain ⟨u58, hj⟩ := hj
          obtain ⟨u59, hj⟩ := hj
          obtain ⟨u60, hj⟩ := hj
          obtain ⟨u61, hj⟩ := hj
          obtain ⟨u62, hj⟩ := hj
          obtain ⟨u63, hj⟩ := hj
          obtain ⟨u64, hj⟩ := hj
          obtain ⟨u65, hj⟩ := hj
          obtain ⟨u66, hj⟩ := hj
          obtain ⟨u67, hj⟩ := hj
          obtain ⟨u68, hj⟩ := hj
          obtain ⟨u69, hj⟩ := hj
          obtain ⟨u70, hj⟩ := hj
          obtain ⟨u71, hj⟩ := hj
          obtain ⟨u72, hj⟩ := hj
          obtain ⟨u73, hj⟩ := hj
          obtain ⟨u74, hj⟩ := hj
          obtain ⟨u75, hj⟩ := hj
          obtain ⟨u76, hj⟩ := hj
          obtain ⟨u77, hj⟩ := hj
          obtain ⟨u78, hj⟩ := hj
          obtain ⟨u79, hj⟩ := hj
          obtain ⟨u80, hj⟩ := hj
          obtain ⟨u81, hj⟩ := hj
          obtain ⟨u82, hj⟩ := hj
          obtain ⟨u83, hj⟩ := hj
          obtain ⟨u84, hj⟩ := hj
          obtain ⟨u85, hj⟩ := hj
          obtain ⟨u86, hj⟩ := hj
          obtain ⟨u87, hj⟩ := hj
          obtain ⟨u88, hj⟩ := hj
          obtain ⟨u89, hj⟩ := hj
          obtain ⟨u90, hj⟩ := hj
          obtain ⟨u91, hj⟩ := hj
          obtain ⟨u92, hj⟩ := hj
          obtain ⟨u93, hj⟩ := hj
          obtain ⟨u94, hj⟩ := hj
          obtain ⟨u95, hj⟩ := hj
          obtain ⟨u96, hj⟩ := hj
          obtain ⟨u97, hj⟩ := hj
          obtain ⟨u98, hj⟩ := hj
          obtain ⟨u99, hj⟩ := hj
          obtain ⟨u100, hj⟩ := hj
          obtain ⟨u101, hj⟩ := hj
          obtain ⟨u102, hj⟩ := hj
          obtain ⟨u103, hj⟩ := hj
          obtain ⟨u104, hj⟩ := hj
          obtain ⟨u105, hj⟩ := hj
          obtain ⟨u106, hj⟩ := hj
          obtain ⟨u107, hj⟩ := hj
          obtain ⟨u108, hj⟩ := hj
          obtain ⟨u109, hj⟩ := hj
          obtain ⟨u110, hj⟩ := hj
          obtain ⟨u111, hj⟩ := hj
          obtain ⟨u112, hj⟩ := hj
          obtain ⟨u113, hj⟩ := hj
          obtain ⟨u114, hj⟩ := hj
          obtain ⟨u115, hj⟩ := hj
          obtain ⟨u116, hj⟩ := hj
          obtain ⟨u117, hj⟩ := hj
          obtain ⟨u118, hj⟩ := hj
          obtain ⟨u119, hj⟩ := hj
          obtain ⟨u120, hj⟩ := hj
          obtain ⟨u121, hj⟩ := hj
          obtain ⟨u122, hj⟩ := hj
          obtain ⟨u123, hj⟩ := hj
          obtain ⟨u124, hj⟩ := hj
          obtain ⟨u125, hj⟩ := hj
          obtain ⟨u126, hj⟩ := hj
          obtain ⟨u127, hj⟩ := hj
          obtain ⟨u128, hj⟩ := hj
          obtain ⟨u129, hj⟩ := hj
          obtain ⟨u130, hj⟩ := hj
          obtain ⟨u131, hj⟩ := hj
          obtain ⟨u132, hj⟩ := hj
          obtain ⟨u133, hj⟩ := hj
          obtain ⟨u134, hj⟩ := hj
          obtain ⟨u135, hj⟩ := hj
          obtain ⟨u136, hj⟩ := hj
          obtain ⟨u137, hj⟩ := hj
          obtain ⟨u138, hj⟩ := hj
          obtain ⟨u139, hj⟩ := hj
          obtain ⟨⟨e, rfl, he1, he2, rfl, hq3, hq4⟩, rfl⟩ := hj
          obtain ⟨LL, hL1, hL2⟩ := line_step hlt ht1 ht2 hq1.out hq2.out he1 he2 hq3.out hq4.out
          obtain ⟨body, hbd⟩ : ∃ b, b = (s.drop f).take (e - f) := ⟨_, rfl⟩
          have hcut : (⟨s.toArray⟩ : ByteArray).extract f e = ⟨body.toArray⟩ := by rw [cut_str, hbd]
          have hbl : body.length + f ≤ e := by rw [hbd]; simp; omega
          have HRD : Hid (readR ⟨[], [], []⟩ 0 (linesL s) = match colR r n body with
              | none => (n, none)
              | some r' => readR r' (n + 1) (linesL (s.drop (t + 1)))) := by
            unfold Hid
            rw [hh.out.reads, hL1, readR_line, hL2, hbd]
            cases colR r n ((s.drop f).take (e - f)) <;> rfl
          have hll := hh.out.labs
          have hcl := hh.out.code
          have hul := hh.out.uses
          have HC0 : Hid (RdC e w.heap.size w (.slice pb r.code.length pc) vl vn va vi r r n body body wr) := ⟨hh.out.rows, hh.out.kept, rfl, rfl, rfl, by omega⟩
          have FD := rfind_any body (by omega) wr
          have hfe : (f : Int) ≤ e := by omega
          have hes : (e : Int) ≤ s.length := by omega
          clear hh hq1 hq2 hq3 hq4 hL1 hL2 hbd LL hsz
          go_wp2_with fail
          refine FD.mono ?_
          rintro e' w1 ⟨rfl, hw1⟩
          subst hw1
          clear FD hcut
          go_wp2_with fail
          go_loopw [7, 15, 16] (fun a7 a15 a16 wc => ∃ (vl1 : Value) (r1 : Rd) (q : List UInt8) (ci : Int), vl1 = a7 ∧ a15 = .string ⟨q.toArray⟩ ∧ a16 = .int .i64 ci ∧ Hid (ci = colI q) ∧ Hid (RdC e w.heap.size w (.slice pb r.code.length pc) vl1 vn va vi r r1 n body q wc)) (fun _ a15 _ _ => strLen a15)
          case atStart => exact ⟨_, r, body, _, rfl, rfl, rfl, rfl, HC0⟩
          case round =>
            obtain ⟨vl1, r1, q, ci, rfl, rfl, rfl, hci, hc⟩ := hrel
            have hlq := hc.out.labs
            have hqs := size_of q
            clear HC0
            by_cases hcol : q.idxOf 58 < q.length
            · obtain ⟨k, hk⟩ : ∃ k, k = q.idxOf 58 := ⟨_, rfl⟩
              obtain rfl : ci = (k : Int) := by rw [hci.out]; unfold colI; rw [if_pos hcol, hk]
              have hkq : k < q.length := by rw [hk]; exact hcol
              have hkqi : (k : Int) ≤ q.length := by omega
              have hkqj : (k : Int) + 1 ≤ q.length := by omega
              have hk2 : (k : Int) ≤ 20000 := by omega
              obtain ⟨nm0, hnm0⟩ : ∃ x, x = q.take k := ⟨_, rfl⟩
              have hcut2 : (⟨q.toArray⟩ : ByteArray).extract 0 k = ⟨nm0.toArray⟩ := by rw [cut_str, hnm0]; simp
              obtain ⟨nm, hnm⟩ : ∃ x, x = nm0.dropWhile blk := ⟨_, rfl⟩
              obtain ⟨q2, hq2⟩ : ∃ x, x = q.drop (k + 1) := ⟨_, rfl⟩
              have hcut4 : (⟨q.toArray⟩ : ByteArray).extract (k + 1) q.length = ⟨q2.toArray⟩ := by rw [cut_str, hq2, List.take_of_length_le (by simp)]
              have hq2l : q2.length + 1 ≤ q.length := by rw [hq2]; simp; omega
              have hn0l : nm0.length ≤ 20000 := by rw [hnm0]; simp; omega
              have hnml : nm.length ≤ 20000 := by rw [hnm]; have := dropWhile_len blk nm0; omega
              have HMORE : Hid (colR r n body = (standR r1 nm).bind fun r' => colR r' n q2) := by unfold Hid; rw [hc.out.reads, colR_more hcol, ← hk, ← hnm0, ← hnm, ← hq2]
              have HNM : Hid (nm = nm0.dropWhile blk) := hnm
              clear hcol hk hnm0 hnm hq2 hci
              go_wp2_with fail
              refine Code.wp_mono (Q := fun ex a' w' => ex = Exit.exit 8 ∧ (∃ u2 : Value, ∃ u3 : Value, ∃ u4 : Value, ∃ u5 : Value, ∃ u18 : Value, ∃ u60 : Value, ∃ u61 : Value, ∃ u62 : Value, ∃ u63 : Value, ∃ u64 : Value, ∃ u65 : Value, ∃ u66 : Value, ∃ u67 : Value, ∃ u68 : Value, ∃ u69 : Value, ∃ u70 : Value, ∃ u71 : Value, ∃ u72 : Value, ∃ u73 : Value, ∃ u74 : Value, ∃ u75 : Value, ∃ u76 : Value, ∃ u77 : Value, ∃ u78 : Value, ∃ u79 : Value, ∃ u80 : Value, ∃ u81 : Value, ∃ u82 : Value, ∃ u83 : Value, ∃ u84 : Value, ∃ u85 : Value, ∃ u86 : Value, ∃ u87 : Value, ∃ u88 : Value, ∃ u89 : Value, ∃ u90 : Value, ∃ u91 : Value, ∃ u92 : Value, ∃ u93 : Value, ∃ u94 : Value, ∃ u95 : Value, ∃ u96 : Value, ∃ u97 : Value, ∃ u98 : Value, ∃ u99 : Value, ∃ u100 : Value, ∃ u101 : Value, ∃ u102 : Value, wr = w' ∧ a' = ⟨#[.string ⟨s.toArray⟩, undef, u2, u3, u4, u5, .slice pb r.code.length pc, vl1, vn, va, vi, .int .i64 (n : Int), .int .i64 (f : Int), .int .i64 (t : Int), .int .i64 (e : Int), .string ⟨q.toArray⟩, .int .i64 (k : Int), .string ⟨nm.toArray⟩, u18, u19, u20, u21, u22, undef, undef, u25, u26, u27, u28, u29, u30, u31, u32, u33, u34, u35, u36, u37, u38, u39, u40, u41, u42, u43, u44, u45, u46, u47, u48, u49, u50, u51, u52, u53, .string ⟨s.toArray⟩, .int .i64 (f : Int), .int .i64 (e : Int), .string ⟨body.toArray⟩, .string ⟨body.toArray⟩, .int .i64 (colI body), u60, u61, u62, u63, u64, u65, u66, u67, u68, u69, u70, u71, u72, u73, u74, u75, u76, u77, u78, u79, u80, u81, u82, u83, u84, u85, u86, u87, u88, u89, u90, u91, u92, u93, u94, u95, u96, u97, u98, u99, u100, u101, u102, u103, u104, u105, u106, u107, u108, u109, u110, u111, u112, u113, u114, u115, u116, u117, u118, u119, u120, u121, u122, u123, u124, u125, u126, u127, u128, u129, u130, u131, u132, u133, u134, u135, u136, u137, u138, u139, undef, undef, undef, undef, undef, undef, undef, undef, undef, undef, undef, undef, undef, undef, undef, undef, undef, undef, undef, undef, undef, undef, undef, undef, undef, undef, undef, undef, undef, undef], []⟩)) ?_ ?_
              · rintro ex a' w' ⟨rfl, hj⟩
                obtain ⟨u2, hj⟩ := hj
                obtain ⟨u3, hj⟩ := hj
                obtain ⟨u4, hj⟩ := hj
                obtain ⟨u5, hj⟩ := hj
                obtain ⟨u18, hj⟩ := hj
                obtain ⟨u60, hj⟩ := hj
                obtain ⟨u61, hj⟩ := hj
                obtain ⟨u62, hj⟩ := hj
                obtain ⟨u63, hj⟩ := hj
                obtain ⟨u64, hj⟩ := hj
                obtain ⟨u65, hj⟩ := hj
                obtain ⟨u66, hj⟩ := hj
                obtain ⟨u67, hj⟩ := hj
                obtain ⟨u68, hj⟩ := hj
                obtain ⟨u69, hj⟩ := hj
                obtain ⟨u70, hj⟩ := hj
                obtain ⟨u71, hj⟩ := hj
                obtain ⟨u72, hj⟩ := hj
                obtain ⟨u73, hj⟩ := hj
                obtain ⟨u74, hj⟩ := hj
                obtain ⟨u75, hj⟩ := hj
                obtain ⟨u76, hj⟩ := hj
                obtain ⟨u77, hj⟩ := hj
                obtain ⟨u78, hj⟩ := hj
                obtain ⟨u79, hj⟩ := hj
                obtain ⟨u80, hj⟩ := hj
                obtain ⟨u81, hj⟩ := hj
                obtain ⟨u82, hj⟩ := hj
                obtain ⟨u83, hj⟩ := hj
                obtain ⟨u84, hj⟩ := hj
                obtain ⟨u85, hj⟩ := hj
                obtain ⟨u86, hj⟩ := hj
                obtain ⟨u87, hj⟩ := hj
                obtain ⟨u88, hj⟩ := hj
                obtain ⟨u89, hj⟩ := hj
                obtain ⟨u90, hj⟩ := hj
                obtain ⟨u91, hj⟩ := hj
                obtain ⟨u92, hj⟩ := hj
                obtain ⟨u93, hj⟩ := hj
                obtain ⟨u94, hj⟩ := hj
                obtain ⟨u95, hj⟩ := hj
                obtain ⟨u96, hj⟩ := hj
                obtain ⟨u97, hj⟩ := hj
                obtain ⟨u98, hj⟩ := hj
                obtain ⟨u99, hj⟩ := hj
                obtain ⟨u100, hj⟩ := hj
                obtain ⟨u101, hj⟩ := hj
                obtain ⟨u102, hj⟩ := hj
                obtain ⟨rfl, rfl⟩ := hj
                have LB := rislabel_any nm
                have hgone : Hid (standR r1 nm = none → ∀ W, RePost s w (.returned (.tuple #[.slice none 0 0, .slice none 0 0, .int .i64 (n : Int), .bool false])) W) := fun hq W => HBAD.out n W (by rw [HRD.out, HMORE.out, hq]; rfl)
                have hc2 := fun X (kX : Keeps (fun _ => False) wr X) => hc.out.keeps kX
                have HCX : Hid (∀ X, Keeps (fun _ => False) wr X → RdC e w.heap.size w (.slice pb r.code.length pc) vl1 vn va vi r r1 n body q X) := hc2
                clear hc hc2 HNM
                cases hlb : labB nm with
                | false =>
                  rw [hlb] at LB
                  have hR := hgone.out (stand_no (.inl hlb))
                  clear HBAD HRD HMORE hgone
                  go_wp2_with fail
                  refine (LB _).mono ?_
                  rintro e' w2 ⟨rfl, k2⟩
                  have kk := (HCX.out _ k2).kept
                  clear LB HCX
                  go_wp2_with fail
                  ((try simp only [Exit.inBlock, Exit.then]); refine bodyPost_ret (results_tmp4 rfl _ _ _) rfl ?_)
                  exact ⟨hR _, kk⟩
                | true =>
                  rw [hlb] at LB
                  go_wp2_with fail
                  refine (LB _).mono ?_
                  rintro e' w2 ⟨rfl, k2⟩
                  have hc2 := HCX.out _ k2
                  clear LB HCX
                  have PL := rplace_any vl1 r1.labs (by omega) nm w2 (labN_of_own hc2.rows.labs)
                  rcases plc_cases r1.labs nm with hpl | hpl
                  · obtain ⟨vl2, w3, hrun, hd2, kd⟩ := hc2.rows.lab hc2.kept nm (by omega)
                    rw [hc2.code] at hrun
                    have HR : Hid (_ = _) := hrun
                    have HC3 : Hid (RdC e w.heap.size w (.slice pb r.code.length pc) vl2 vn va vi r { r1 with labs := r1.labs ++ [(nm, r1.code.length)] } n body q2 w3) := ⟨hd2, kd, by rw [HMORE.out, stand_yes hlb hpl]; rfl, hc2.code, hc2.uses, by simp; omega⟩
                    have FD := rfind_any q2 (by omega) w3
                    rw [hpl] at PL
                    clear HMORE hgone hc2 hrun hd2 kd hpl hlb HBAD HRD
                    go_wp2_with fail
                    refine PL.mono ?_
                    rintro e' w4 ⟨rfl, hw4⟩
                    replace hw4 := hw4.symm
                    subst hw4
                    clear PL
                    go_wp2_with (at_builtin; refine wpList_append_run rfl _ _ 27 rfl rfl rfl HR.out ?_)
                    refine FD.mono ?_
                    rintro e' w5 ⟨rfl, hw5⟩
                    subst hw5
                    clear FD HR
                    go_wp2_with fail
                    go_roundw
                    · exact ⟨_, _, q2, _, rfl, rfl, rfl, rfl, HC3⟩
                    · simp [strLen, ByteArray.size]; omega
                  · have hR := hgone.out (stand_no (.inr hpl))
                    have kk := hc2.kept
                    generalize plc r1.labs nm = pq at *
                    have hpi : (0 : Int) ≤ pq := hpl
                    clear HMORE hgone hc2 HBAD HRD
                    go_wp2_with fail
                    refine PL.mono ?_
                    rintro e' w4 ⟨rfl, hw4⟩
                    replace hw4 := hw4.symm
                    subst hw4
                    clear PL
                    go_wp2_with fail
                    ((try simp only [Exit.inBlock, Exit.then]); refine bodyPost_ret (results_tmp4 rfl _ _ _) rfl ?_)
                    exact ⟨hR _, kk⟩
              · go_loopw [17] (fun a17 wt => ∃ x : List UInt8, a17 = .string ⟨x.toArray⟩ ∧ wt = wr ∧ x.length ≤ 20000 ∧ Hid (nm = x.dropWhile blk)) (fun a17 _ => strLen a17)
                case atStart => exact ⟨nm0, rfl, rfl, hn0l, HNM⟩
                case round =>
                  obtain ⟨x, rfl, rfl, hxl, hx⟩ := hrel
                  clear HNM
                  by_cases h0 : x = []
                  · subst h0
                    obtain rfl : nm = [] := hx.out
                    clear hx hc HMORE HBAD HRD
                    go_wp2_with fail
                    refine ⟨by first | trivial | rfl, ?_⟩
                    repeat apply Exists.intro
                    exact ⟨by first | rfl | trivial, rfl⟩
                  · have hem : x.isEmpty = false := by cases x; exact absurd rfl h0; rfl
                    have hemp : (ByteArray.toList ⟨x.toArray⟩ == []) = false := by simpa using h0
                    have hemp' : (ByteArray.toList ⟨x.toArray⟩ != []) = true := by simpa using h0
                    have hpos := List.length_pos_iff.2 h0
                    have hxs := size_of x
                    have hb0 : (0 : Nat) < (⟨x.toArray⟩ : ByteArray).size := by omega
                    have hat : ((⟨x.toArray⟩ : ByteArray)[0]'hb0).toNat = (x[0]).toNat := rfl
                    have h1x : (1 : Int) ≤ x.length := by omega
                    obtain ⟨y, hy⟩ : ∃ y, y = x.drop 1 := ⟨_, rfl⟩
                    have hcy : (⟨x.toArray⟩ : ByteArray).extract 1 x.length = ⟨y.toArray⟩ := by rw [cut_str, hy, List.take_of_length_le (by simp)]
                    have hyl : y.length + 1 = x.length := by rw [hy]; simp; omega
                    have hxy : x = x[0] :: y := by
                      rw [hy]
                      cases x with
                      | nil => exact absurd rfl h0
                      | cons a b => rfl
                    have HB : Hid (blk x[0] = true → nm = y.dropWhile blk) := fun hb => by rw [hx.out, hxy, List.dropWhile_cons, if_pos hb]
                    have HE : Hid (blk x[0] = false → nm = x) := fun hb => by rw [hx.out, hxy, List.dropWhile_cons, if_neg (by simp [hb])]
                    have HK : Hid (blk x[0] = decide ((x[0]).toNat = 32 ∨ (x[0]).toNat = 9)) := by
                      unfold Hid blk
                      rw [Bool.eq_iff_iff]
                      simp only [Bool.or_eq_true, beq_iff_eq, decide_eq_true_eq]
                      constructor
                      · rintro (h | h) <;> rw [h] <;> simp
                      · rintro (h | h)
                        · exact .inl (UInt8.toNat.inj (by rw [h]; rfl))
                        · exact .inr (UInt8.toNat.inj (by rw [h]; rfl))
                    clear hxy hy hx
                    generalize blk x[0] = bb at *
                    generalize (x[0]).toNat = c at *
                    by_cases c32 : c = 32
                    · subst c32
                      have hn := HB.out (by rw [HK.out]; simp)
                      have HN2 : Hid (nm = y.dropWhile blk) := hn
                      clear hn HB HE HK hc HMORE HBAD HRD
                      go_wp2_with fail
                      go_roundw
                      · exact ⟨y, by first | rfl | simp, by first | rfl | trivial, by omega, HN2⟩
                      · simp [strLen, ByteArray.size]; omega
                    · have cb1 : ((c : Int) == 32) = false := by simp; omega
                      by_cases c9 : c = 9
                      · subst c9
                        have hn := HB.out (by rw [HK.out]; simp)
                        have HN2 : Hid (nm = y.dropWhile blk) := hn
                        clear hn HB HE HK hc HMORE HBAD HRD
                        go_wp2_with fail
                        go_roundw
                        · exact ⟨y, by first | rfl | simp, by first | rfl | trivial, by omega, HN2⟩
                        · simp [strLen, ByteArray.size]; omega
                      · have cb2 : ((c : Int) == 9) = false := by simp; omega
                        obtain rfl := HE.out (by rw [HK.out]; simp; omega)
                        clear HB HE HK hc HMORE HBAD HRD
                        go_wp2_with fail
                        refine ⟨by first | trivial | rfl, ?_⟩
                        repeat apply Exists.intro
                        exact ⟨by first | rfl | trivial, rfl⟩
            · obtain rfl : ci = -1 := by rw [hci.out]; unfold colI; rw [if_neg hcol]
              have HLAST : Hid (colR r n body = if bparts [] q = [] then some r1 else insR r1 (bparts [] q) n) := by unfold Hid; rw [hc.out.reads, colR_last hcol]
              have PT := rparts_any q (by omega) wr
              have HBP : Hid (∀ x ∈ bparts [] q, x.length ≤ 20000) := fun x hx => bparts_each q [] 20000 (by simp; omega) x hx
              have HBN : Hid (∀ x ∈ bparts [] q, x ≠ []) := fun x hx => bparts_ne q [] x hx
              have HB32 : Hid (∀ x ∈ bparts [] q, (32 : UInt8) ∉ x) := fun x hx => bparts_no32 q [] (by simp) x hx
              clear hcol hci
              go_wp2_with fail
              refine PT.mono ?_
              rintro e' w2 ⟨vo, rfl, hst, k2⟩
              clear PT
              have hc2 := hc.out.keeps k2
              have HC2 : Hid (RdC e w.heap.size w (.slice pb r.code.length pc) vl1 vn va vi r r1 n body q w2) := hc2
              clear hc hc2 k2
              obtain ⟨P, hP⟩ : ∃ P, P = bparts [] q := ⟨_, rfl⟩
              rw [← hP] at hst HLAST HBP HBN HB32
              clear hP
              have hti2 : (t : Int) ≤ 20000 := by omega
              have hni2 : (n : Int) ≤ 20000 := by omega
              cases P with
              | nil =>
                obtain ⟨ua, uc, rfl⟩ := hst.shape
                rw [if_pos rfl] at HLAST
                have fin : Hid (RdS s w.heap.size w (.slice pb r.code.length pc) vl1 vn va vi r1 (n + 1) (t + 1) w2) := ⟨HC2.out.rows, HC2.out.kept, by rw [HRD.out, HLAST.out], by have := HC2.out.labs; omega, by rw [HC2.out.code]; omega, by rw [HC2.out.uses]; omega⟩
                clear HRD HLAST HC2 HBAD hst HBP HBN HB32
                go_wp2_with fail
                go_roundw
                · exact ⟨_, _, _, _, _, r1, n + 1, t + 1, rfl, rfl, rfl, rfl, rfl, by simp, by simp, by omega, by omega, fin⟩
                · simp [intOf]; omega
              | cons h ws =>
                have hne := HBN.out
                have IN := rinstr_any h ws (fun x hx => by have := HBP.out x (by simp [hx]); omega) _ vo w2 hst
                have HZ : Hid (∀ i, parseW (zeroed (h :: ws)) = some i → i.wf) := fun i hi => parse_wf hi (zeroed_no32 HB32.out)
                have HLL : Hid (usesB (h :: ws) = true → lastW (h :: ws) ≠ []) := fun hu => by
                  simp only [usesB, Bool.and_eq_true] at hu
                  exact labB_ne hu.2
                have hln : (lastW (h :: ws)).length ≤ 20000 := by
                  unfold lastW
                  cases hl : (h :: ws).getLast? with
                  | none => simp
                  | some x => exact HBP.out x (List.mem_of_getLast? hl)
                obtain ⟨ua, uc, rfl⟩ := hst.shape
                rw [if_neg (by simp)] at HLAST
                have HIN : Hid (colR r n body = (parseW (zeroed (h :: ws))).map fun i => { code := r1.code ++ [i], labs := r1.labs, uses := useR r1 (h :: ws) n }) := HLAST.out
                obtain ⟨PL, hPL⟩ : ∃ m, m = (h :: ws).length := ⟨_, rfl⟩
                rw [← hPL] at IN ⊢
                have hPLp : (0 : Int) < PL := by rw [hPL]; simp
                have hPLp' : 0 < PL := by rw [hPL]; simp
                obtain ⟨pw, hpw⟩ : ∃ pw, pw = parseW (zeroed (h :: ws)) := ⟨_, rfl⟩
                obtain ⟨ub, hub⟩ : ∃ ub, ub = usesB (h :: ws) := ⟨_, rfl⟩
                obtain ⟨lw, hlw⟩ : ∃ lw, lw = lastW (h :: ws) := ⟨_, rfl⟩
                have HUS : Hid (useR r1 (h :: ws) n = if ub then r1.uses ++ [(lw, r1.code.length, n)] else r1.uses) := by unfold Hid useR; rw [hub, hlw]
                unfold IPost at IN
                rw [← hpw, ← hub, ← hlw] at IN
                rw [← hpw] at HIN HZ
                rw [← hub, ← hlw] at HLL
                rw [← hlw] at hln
                rw [HUS.out] at HIN
                clear HUS hPL hpw hub hlw hst HLAST HBP HBN HB32 hne
                cases pw with
                | none =>
                  dsimp only at IN
                  have hR := fun W => HBAD.out n W (by rw [HRD.out, HIN.out]; rfl)
                  have hRD : Hid (∀ W, RePost s w (.returned (.tuple #[.slice none 0 0, .slice none 0 0, .int .i64 (n : Int), .bool false])) W) := hR
                  clear hR HBAD HRD HIN HZ HLL
                  go_wp2_with fail
                  refine IN.mono ?_
                  rintro e' w3 ⟨⟨⟨op, a, b, c, N⟩, nx, rfl⟩, k3⟩
                  clear IN
                  have k4 := (HC2.out.kept.trans k3)
                  have hbX := alloc_block w3 (.cells #[.int .i64 0, .int .i64 0, .int .i64 0, .int .i64 0, .int .u64 0] 37)
                  have k5 := (k4.alloc (.cells #[.int .i64 0, .int .i64 0, .int .i64 0, .int .i64 0, .int .u64 0] 37)).row k4.size (I5.cells ⟨op, a, b, c, N⟩)
                  have HBX : Hid (_ = _) := hbX
                  clear hbX k4 k3 HC2
                  go_wp2_with (refine wpList_store_row' rfl 37 _ _ rfl w3.heap.size _ rfl rfl 37 _ HBX.out size_ins rfl (by simp [Value.oneCell']) ?_)
                  ((try simp only [Exit.inBlock, Exit.then]); refine bodyPost_ret (results_tmp4 rfl _ _ _) rfl ?_)
                  exact ⟨hRD.out _, k5⟩
                | some i =>
                  have hwf := HZ.out i rfl
                  obtain ⟨op, a, b, c, N⟩ := i
                  dsimp only at IN
                  rw [Option.map_some] at HIN
                  rw [HIN.out] at HRD
                  dsimp only at HRD
                  clear HBAD HIN HZ
                  have hlb := HC2.out.labs
                  have hcd := HC2.out.code
                  have hus := HC2.out.uses
                  have hcdl : r1.code.length ≤ n := by rw [hcd]; exact hcl
                  have husl : r1.uses.length ≤ n := by rw [hus]; exact hul
                  cases ub with
                  | false =>
                    simp only [Bool.false_eq_true, if_false] at IN HRD
                    clear HLL
                    go_wp2_with fail
                    refine IN.mono ?_
                    rintro e' w3 ⟨rfl, k3⟩
                    clear IN
                    have k4 := (HC2.out.kept.trans k3)
                    have hbX := alloc_block w3 (.cells #[.int .i64 0, .int .i64 0, .int .i64 0, .int .i64 0, .int .u64 0] 37)
                    have k5 := (k4.alloc (.cells #[.int .i64 0, .int .i64 0, .int .i64 0, .int .i64 0, .int .u64 0] 37)).row k4.size (I5.cells ⟨op, a, b, c, N⟩)
                    have k6 := (k3.alloc (.cells #[.int .i64 0, .int .i64 0, .int .i64 0, .int .i64 0, .int .u64 0] 37)).row k3.size (I5.cells ⟨op, a, b, c, N⟩)
                    have bY := setRow_heap _ w3.heap.size _ (I5.cells ⟨op, a, b, c, N⟩) _ _ hbX
                    obtain ⟨X, hX⟩ : ∃ X, X = (w3.alloc (.cells #[.int .i64 0, .int .i64 0, .int .i64 0, .int .i64 0, .int .u64 0] 37)).setRow w3.heap.size (I5.cells ⟨op, a, b, c, N⟩) := ⟨_, rfl⟩
                    rw [← hX] at k5 k6 bY
                    have HX : Hid (_ = _) := hX
                    clear hX
                    have d6 := HC2.out.rows.keeps k6
                    obtain ⟨vp2, w4, hrun, hd, kd⟩ := d6.ins1 k5 ⟨op, a, b, c, N⟩ hwf (by omega)
                    dsimp only at hrun
                    have HBX : Hid (_ = _) := hbX
                    have HBY : Hid (_ = _) := bY
                    have HR : Hid (_ = _) := hrun
                    have fin : Hid (RdS s w.heap.size w vp2 vl1 vn va vi { code := r1.code ++ [⟨op, a, b, c, N⟩], labs := r1.labs, uses := r1.uses } (n + 1) (t + 1) w4) := ⟨hd, kd, HRD.out, by dsimp only; omega, by simp; omega, by dsimp only; omega⟩
                    clear hbX bY k4 k3 HC2 k5 k6 d6 hrun hd kd HRD hwf
                    go_wp2_with (first
                      | (refine wpList_store_rowX rfl 37 _ _ rfl w3.heap.size _ rfl rfl 37 _ HBX.out size_ins rfl (by simp [Value.oneCell']) HX.out ?_)
                      | (refine wpList_load_row rfl 37 _ rfl w3.heap.size rfl 37 _ (0, 0) _ HBY.out Tryz.underlying37 rfl (by rw [size_ins]; rfl) ?_)
                      | (at_builtin; refine wpList_append_run rfl _ _ 23 rfl rfl rfl HR.out ?_))
                    go_roundw
                    · exact ⟨_, _, _, _, _, _, n + 1, t + 1, rfl, rfl, rfl, rfl, rfl, by simp, by simp, by omega, by omega, fin⟩
                    · simp [intOf]; omega
                  | true =>
                    simp only [if_true] at IN HRD
                    have hlne := HLL.out rfl
                    have hem : lw.isEmpty = false := by cases lw; exact absurd rfl hlne; rfl
                    have hemp : (ByteArray.toList ⟨lw.toArray⟩ == []) = false := by simpa using hlne
                    have hemp' : (ByteArray.toList ⟨lw.toArray⟩ != []) = true := by simpa using hlne
                    clear HLL
                    go_wp2_with fail
                    refine IN.mono ?_
                    rintro e' w3 ⟨rfl, k3⟩
                    clear IN
                    have k4 := (HC2.out.kept.trans k3)
                    have hbX := alloc_block w3 (.cells #[.int .i64 0, .int .i64 0, .int .i64 0, .int .i64 0, .int .u64 0] 37)
                    have k5 := (k4.alloc (.cells #[.int .i64 0, .int .i64 0, .int .i64 0, .int .i64 0, .int .u64 0] 37)).row k4.size (I5.cells ⟨op, a, b, c, N⟩)
                    have k6 := (k3.alloc (.cells #[.int .i64 0, .int .i64 0, .int .i64 0, .int .i64 0, .int .u64 0] 37)).row k3.size (I5.cells ⟨op, a, b, c, N⟩)
                    have bY := setRow_heap _ w3.heap.size _ (I5.cells ⟨op, a, b, c, N⟩) _ _ hbX
                    obtain ⟨X, hX⟩ : ∃ X, X = (w3.alloc (.cells #[.int .i64 0, .int .i64 0, .int .i64 0, .int .i64 0, .int .u64 0] 37)).setRow w3.heap.size (I5.cells ⟨op, a, b, c, N⟩) := ⟨_, rfl⟩
                    rw [← hX] at k5 k6 bY
                    have HX : Hid (_ = _) := hX
                    clear hX
                    have d6 := HC2.out.rows.keeps k6
                    obtain ⟨vn2, w4, va2, w5, vi2, w6, ha, hb, hcc, d7, k7, hkp⟩ := d6.use k5 lw r1.code.length n (by omega)
                    have lt3 : ∀ {v : Value} {e : TypeId} {size m : Nat} {xs : List Value}, w2.ownsRow w.heap.size e size v m xs → v.ownBlock ≠ some w3.heap.size := fun hv e => by have := (own_block hv e).1; have := k3.size; omega
                    have bZ := (hkp w3.heap.size (lt_of_block bY) (lt3 HC2.out.rows.names.own) (lt3 HC2.out.rows.ats) (lt3 HC2.out.rows.ins)).trans bY
                    obtain ⟨vp2, w7, hrun, hd, kd⟩ := d7.ins1 k7 ⟨op, a, b, c, N⟩ hwf (by simp; omega)
                    dsimp only at hrun
                    rw [hcd] at hb
                    have HBX : Hid (_ = _) := hbX
                    have HBY : Hid (_ = _) := bZ
                    have HR : Hid (_ = _) := hrun
                    have HRa : Hid (_ = _) := ha
                    have HRb : Hid (_ = _) := hb
                    have HRc : Hid (_ = _) := hcc
                    have fin : Hid (RdS s w.heap.size w vp2 vl1 vn2 va2 vi2 { code := r1.code ++ [⟨op, a, b, c, N⟩], labs := r1.labs, uses := r1.uses ++ [(lw, r1.code.length, n)] } (n + 1) (t + 1) w7) := ⟨hd, kd, HRD.out, by dsimp only; omega, by simp; omega, by simp; omega⟩
                    clear hbX bY bZ k4 k3 HC2 k5 k6 d6 d7 k7 hkp lt3 ha hb hcc hrun hd kd HRD hwf
                    go_wp2_with (first
                      | (refine wpList_store_rowX rfl 37 _ _ rfl w3.heap.size _ rfl rfl 37 _ HBX.out size_ins rfl (by simp [Value.oneCell']) HX.out ?_)
                      | (refine wpList_load_row rfl 37 _ rfl w3.heap.size rfl 37 _ (0, 0) _ HBY.out Tryz.underlying37 rfl (by rw [size_ins]; rfl) ?_)
                      | (at_builtin; refine wpList_append_run rfl _ _ 76 rfl rfl rfl HRa.out ?_)
                      | (at_builtin; refine wpList_append_run rfl _ _ 77 rfl rfl rfl HRb.out ?_)
                      | (at_builtin; refine wpList_append_run rfl _ _ 77 rfl rfl rfl HRc.out ?_)
                      | (at_builtin; refine wpList_append_run rfl _ _ 23 rfl rfl rfl HR.out ?_))
                    go_roundw
                    · exact ⟨_, _, _, _, _, _, n + 1, t + 1, rfl, rfl, rfl, rfl, rfl, by simp, by simp, by omega, by omega, fin⟩
                    · simp [intOf]; omega

        · go_loopw [14] (fun a14 wt => ∃ e : Nat, a14 = .int .i64 (e : Int) ∧ f ≤ e ∧ e ≤ t ∧ wt = wr ∧ Hid (∀ j (hj : j < s.length), f ≤ j → j < e → s[j] ≠ 59)) (fun a14 _ => s.length - (intOf a14).toNat)
          case atStart => exact ⟨f, rfl, Nat.le_refl _, ht1, rfl, fun j _ h1 h2 => absurd h1 (by omega)⟩
          case round =>
            obtain ⟨e, rfl, he1, he2, rfl, hq⟩ := hrel
            by_cases htl : e < t
            · have hel : e < s.length := by omega
              have hti : (e : Int) < t := by omega
              have htb : e < (⟨s.toArray⟩ : ByteArray).size := by rw [hsz]; exact hel
              have hei : (e : Int) < s.length := by omega
              have hat : ((⟨s.toArray⟩ : ByteArray)[e]'htb).toNat = (s[e]).toNat := rfl
              by_cases hc : s[e] = 59
              · have HJ : Hid (∀ h : e < s.length, e < t → s[e] = 59) := fun _ _ => hc
                rw [hc, show (59 : UInt8).toNat = 59 from rfl] at hat
                clear hh HBAD hc hq1 hq2
                go_wp2_with fail
                refine ⟨by first | trivial | rfl, ?_⟩
                repeat apply Exists.intro
                exact ⟨⟨e, rfl, he1, he2, by first | rfl | trivial, hq, HJ⟩, rfl⟩
              · have hcn : (s[e]).toNat ≠ 59 := fun h => hc (UInt8.toNat.inj (by rw [h]; rfl))
                have hn : Hid (∀ j (hj : j < s.length), f ≤ j → j < e + 1 → s[j] ≠ 59) := fun j hj h1 h2 => by
                  by_cases hjt : j = e
                  · subst hjt; exact hc
                  · exact hq.out j hj h1 (by omega)
                generalize (s[e]).toNat = x at *
                have hbe : ((x : Int) != 59) = true := by simp; omega
                clear hh HBAD hq hc hq1 hq2
                go_wp2_with fail
                go_roundw
                · exact ⟨e + 1, by simp, by omega, by omega, by first | rfl | trivial, hn⟩
                · simp [intOf]; omega
            · have hti : ¬ (e : Int) < t := by omega
              have HJ : Hid (∀ h : e < s.length, e < t → s[e] = 59) := fun _ h => absurd h htl
              clear hh HBAD hq1 hq2
              go_wp2_with fail
              refine ⟨by first | trivial | rfl, ?_⟩
              repeat apply Exists.intro
              exact ⟨⟨e, rfl, he1, he2, by first | rfl | trivial, hq, HJ⟩, rfl⟩
      · go_loopw [13] (fun a13 wt => ∃ t : Nat, a13 = .int .i64 (t : Int) ∧ f ≤ t ∧ t ≤ s.length ∧ wt = wr ∧ Hid (∀ j (hj : j < s.length), f ≤ j → j < t → s[j] ≠ 10)) (fun a13 _ => s.length - (intOf a13).toNat)
        case atStart => exact ⟨f, rfl, Nat.le_refl _, by omega, rfl, fun j _ h1 h2 => absurd h1 (by omega)⟩
        case round =>
          obtain ⟨t, rfl, ht1, ht2, rfl, hq⟩ := hrel
          by_cases htl : t < s.length
          · have hti : (t : Int) < s.length := by omega
            have htb : t < (⟨s.toArray⟩ : ByteArray).size := by rw [hsz]; exact htl
            have hat : ((⟨s.toArray⟩ : ByteArray)[t]'htb).toNat = (s[t]).toNat := rfl
            by_cases hc : s[t] = 10
            · have HJ : Hid (∀ h : t < s.length, s[t] = 10) := fun _ => hc
              rw [hc, show (10 : UInt8).toNat = 10 from rfl] at hat
              clear hh HBAD hc
              go_wp2_with fail
              refine ⟨by first | trivial | rfl, ?_⟩
              repeat apply Exists.intro
              exact ⟨⟨t, rfl, ht1, ht2, by first | rfl | trivial, hq, HJ⟩, rfl⟩
            · have hcn : (s[t]).toNat ≠ 10 := fun h => hc (UInt8.toNat.inj (by rw [h]; rfl))
              have hn : Hid (∀ j (hj : j < s.length), f ≤ j → j < t + 1 → s[j] ≠ 10) := fun j hj h1 h2 => by
                by_cases hjt : j = t
                · subst hjt; exact hc
                · exact hq.out j hj h1 (by omega)
              generalize (s[t]).toNat = x at *
              have hbe : ((x : Int) != 10) = true := by simp; omega
              clear hh HBAD hq hc
              go_wp2_with fail
              go_roundw
              · exact ⟨t + 1, by simp, by omega, by omega, by first | rfl | trivial, hn⟩
              · simp [intOf]; omega
          · have hti : ¬ (t : Int) < s.length := by omega
            have HJ : Hid (∀ h : t < s.length, s[t] = 10) := fun h => absurd h htl
            clear hh HBAD
            go_wp2_with fail
            refine ⟨by first | trivial | rfl, ?_⟩
            repeat apply Exists.intro
            exact ⟨⟨t, rfl, ht1, ht2, by first | rfl | trivial, hq, HJ⟩, rfl⟩
    · have hfi : ¬ (f : Int) < s.length := by omega
      have hnil : linesL (s.drop f) = [] := by rw [List.drop_eq_nil_of_le (by omega)]; rfl
      have HR0 : Hid (readR ⟨[], [], []⟩ 0 (linesL s) = (n, some r)) := by unfold Hid; rw [hh.out.reads, hnil]; rfl
      have HT : Hid (readT s = match resR r.labs r.code r.uses with
          | (some line, _) => (line, none)
          | (none, code) => (n, some (code, r.labs))) := readT_res HR0.out
      have HU : Hid (∀ u ∈ r.uses, u.2.1 < r.code.length ∧ u.2.2 ≤ n) := (readR_uses (linesL s) ⟨[], [], []⟩ r 0 n HR0.out (by simp)).1
      have HLB : Hid (∀ q ∈ r.labs, q.2 ≤ r.code.length) := readR_labs (linesL s) ⟨[], [], []⟩ r 0 n HR0.out (by simp)
      have hll := hh.out.labs
      have hcl := hh.out.code
      have hul := hh.out.uses
      have hn2 : n ≤ 20001 := by omega
      have HUS : Hid (UsS w.heap.size w vp vl vn va vi r r.code 0 wr) := ⟨hh.out.rows, hh.out.kept, rfl, by simp⟩
      obtain ⟨nb, nc, hvn⟩ := hh.out.rows.names.shape
      rw [List.length_map] at hvn
      subst hvn
      obtain ⟨pb, pc, rfl⟩ := hh.out.rows.code.form
      clear hh hnil HR0 HBAD hsz
      go_wp2_with fail
      go_loopw [23] (fun a23 wk => ∃ (k : Nat) (code' : List I5), a23 = .int .i64 (k : Int) ∧ k ≤ r.uses.length ∧ Hid (UsS w.heap.size w (.slice pb r.code.length pc) vl (.slice nb r.uses.length nc) va vi r code' k wk)) (fun a23 _ => r.uses.length - (intOf a23).toNat)
      case atStart => exact ⟨0, r.code, rfl, Nat.zero_le _, HUS⟩
      case round =>
        obtain ⟨k, code', rfl, hk, hus⟩ := hrel
        clear HUS
        by_cases hkl : k < r.uses.length
        · have hki : (k : Int) < r.uses.length := by omega
          obtain ⟨gn, cn, ga, ca, gi, ci, e1, e2, e3, l1, l2, l3, c1, c2, c3⟩ := hus.out.rows.at k hkl
          dsimp only at e1 e2 e3 l1 l2 l3 c1 c2 c3
          simp only [Value.slice.injEq] at e1
          obtain ⟨rfl, -, rfl⟩ := e1
          subst e2 e3
          have hca : (k : Int) < ca := by omega
          have hci : (k : Int) < ci := by omega
          have hcn : (k : Int) < nc := by omega
          have hu := HU.out _ (List.getElem_mem hkl)
          have PL := rplace_any vl r.labs (by omega) (r.uses[k]).1 wr (labN_of_own hus.out.rows.labs)
          cases hl : r.labs.lookup (r.uses[k]).1 with
          | none =>
            have hpl : plc r.labs (r.uses[k]).1 = -1 := by unfold plc; rw [hl]
            rw [hpl] at PL
            have hR := fun W => HBD2.out (r.uses[k]).2.2 W (by rw [HT.out, hus.out.res, resR_no hkl hl])
            have kk := hus.out.kept
            have hRD : Hid (∀ W, RePost s w (.returned (.tuple #[.slice none 0 0, .slice none 0 0, .int .i64 ((r.uses[k]).2.2 : Int), .bool false])) W) := hR
            generalize r.uses[k] = u at *
            obtain ⟨ux, ua, ul⟩ := u
            dsimp only at PL c1 c2 c3 hu hRD
            clear hR HT hus HLB HU HOK HBD2 hl hpl c2
            go_wp2_with fail
            refine PL.mono ?_
            rintro e' w4 ⟨rfl, hw4⟩
            replace hw4 := hw4.symm
            subst hw4
            clear PL
            go_wp2_with fail
            go_quiet (fail)
            go_wp2_with fail
            ((try simp only [Exit.inBlock, Exit.then]); refine bodyPost_ret (results_tmp4 rfl _ _ _) rfl ?_)
            exact ⟨hRD.out _, kk.drewN _⟩
          | some p =>
            have hpl : plc r.labs (r.uses[k]).1 = (p : Int) := by unfold plc; rw [hl]
            rw [hpl] at PL
            have hple : p ≤ r.code.length := HLB.out _ (lookup_in _ _ _ hl)
            obtain ⟨g, cap, x, f1, f2, f3, f4, f5⟩ := hus.out.rows.setN hus.out.kept (r.uses[k]).2.1 (by show _ < code'.length; rw [hus.out.len]; exact hu.1) p (by omega)
            dsimp only at f1
            simp only [Value.slice.injEq] at f1
            obtain ⟨rfl, -, rfl⟩ := f1
            have hcap : r.code.length ≤ pc := by
              rcases hus.out.rows.code.own.2 with ⟨q, _⟩ | ⟨g', cap', cur, q, _, _, q3, _⟩
              · cases q
              · simp only [Value.slice.injEq] at q
                obtain ⟨_, _, rfl⟩ := q
                have := hus.out.len
                dsimp only at q3
                omega
            have fin : Hid (UsS w.heap.size w (.slice (some ⟨g, 0, none⟩) r.code.length pc) vl (.slice (some ⟨gn, 0, none⟩) r.uses.length nc) (.slice (some ⟨ga, 0, none⟩) r.uses.length ca) (.slice (some ⟨gi, 0, none⟩) r.uses.length ci) r (setN code' (r.uses[k]).2.1 p) (k + 1) (wr.setCell ⟨g, (r.uses[k]).2.1 * 5 + 4, none⟩ (.int .u64 (p : Int)))) := ⟨f4, f5, by rw [setN_len]; exact hus.out.len, by rw [hus.out.res, resR_yes hkl hl]⟩
            generalize r.uses[k] = u at *
            obtain ⟨ux, ua, ul⟩ := u
            dsimp only at PL c1 c2 c3 hu f2 f3 fin
            have hui : (ua : Int) < r.code.length := by omega
            have huc : (ua : Int) < pc := by omega
            have hp2 : (p : Int) ≤ 20001 := by omega
            clear HT hus HLB HU HOK HBD2 hl hpl c3 f4 f5
            go_wp2_with fail
            refine PL.mono ?_
            rintro e' w4 ⟨rfl, hw4⟩
            replace hw4 := hw4.symm
            subst hw4
            clear PL
            go_wp2_with fail
            go_roundw
            · exact ⟨k + 1, _, by simp, by omega, fin⟩
            · simp [intOf]; omega
        · have hki : ¬ (k : Int) < r.uses.length := by omega
          obtain rfl : k = r.uses.length := by omega
          have hR := HOK.out n code' r.labs _ _ wr (by rw [HT.out, hus.out.res, List.drop_length]; rfl) hus.out.rows.code hus.out.rows.labs hus.out.rows.wf
          have kk := hus.out.kept
          clear HT hus HLB HU HOK HBD2
          go_wp2_with fail
          ((try simp only [Exit.inBlock, Exit.then]); refine bodyPost_ret (results_tmp4 rfl _ _ _) rfl ?_)
          exact ⟨hR, kk⟩

end Go.Proofs.YtkkmkfldldglgaaGreatDoor
