
/- The law's works: a few of the chapter's examples. No statement of the seat is proved here. -/
import Derived.Test.YtijommlodgpphaaDoorCdJ
import Derived.Lib.BufferRead
namespace Go.Proofs.YtijommlodgpphaaDoor
open Go.RowKit Go.Shelf

theorem num_any (n : Int) (w : World) : Calls Tryd.prog 7 #[.int .i64 n] w fun e w' => e = .returned (.int .i64 n) ∧ w' = w := by
  go_enter Tryd.func7, Tryd.ntmps7
  go_wp2
  go_ret
  exact ⟨rfl, rfl⟩

theorem dec_two : Lib.decDigits 2 = [50] := by rw [Lib.decDigits, dif_pos (by decide)]; rfl
theorem dec_three : Lib.decDigits 300 = [51, 48, 48] := by
  rw [Lib.decDigits, dif_neg (by decide), Lib.decDigits, dif_neg (by decide), Lib.decDigits, dif_pos (by decide)]; rfl
theorem text_ex : textL ⟨1, 2, 0, 0, 300⟩ = [99, 111, 110, 115, 116, 32, 50, 32, 51, 48, 48] := by
  have e : numL ⟨1, 2, 0, 0, 300⟩ = [2, 300] := by rfl
  unfold textL
  rw [e]
  simp only [blanked, List.flatMap_cons, List.flatMap_nil]
  rw [show (2 : Int).toNat = 2 from rfl, show (300 : Int).toNat = 300 from rfl, dec_two, dec_three]
  rfl
theorem bytes_ex : [(⟨1, 2, 0, 0, 300⟩ : I5), ⟨15, 0, 0, 0, 0⟩].flatMap bytesL = [1, 2, 172, 2, 15] := by
  have e : numL ⟨1, 2, 0, 0, 300⟩ = [2, 300] := by rfl
  have e2 : numL ⟨15, 0, 0, 0, 0⟩ = [] := by rfl
  simp only [bytesL, List.flatMap_cons, List.flatMap_nil, e, e2]
  rw [show (2 : Int).toNat = 2 from rfl, show (300 : Int).toNat = 300 from rfl, sevL_last (n := 2) (by decide), sevL_more (n := 300) (by decide), sevL_last (n := 300 / 128) (by decide)]
  rfl
theorem parse_ex : parseL [122, 101, 114, 111, 32, 55, 32, 48] = some ⟨9, 7, 0, 0, 0⟩ := by kernel_rfl

theorem cells5 {w : World} {p : Nat} {t : TypeId} {v0 v1 v2 v3 v4 : Value} (h : w.heap[p]? = some (.cells #[v0, v1, v2, v3, v4] t (0, 0))) :
    w.cell? ⟨p, 0, none⟩ = some v0 ∧ w.cell? ⟨p, 1, none⟩ = some v1 ∧ w.cell? ⟨p, 2, none⟩ = some v2 ∧ w.cell? ⟨p, 3, none⟩ = some v3 ∧ w.cell? ⟨p, 4, none⟩ = some v4 := by
  refine ⟨?_, ?_, ?_, ?_, ?_⟩ <;> (rw [cell_of_block h]; rfl)

/-- string of a row of bytes of the call's own. -/
theorem bts_string {w : World} {base : Nat} {v : Value} {l : List UInt8} (h : Bts w base v l) : (convert 22 9 v).run Tryd.prog w = .ok (.string ⟨l.toArray⟩) w := by
  rcases h.own.2 with ⟨rfl, h2⟩ | ⟨g, cap, cur, rfl, h1, h2, h3, h4, h5, h6⟩
  · obtain rfl : l = [] := List.length_eq_zero_iff.1 h2
    exact Go.Lib.run_convert_nil_bytes w 22 9 5 0 Tryd.underlying22 Tryd.underlying5 Tryd.underlying9
  · refine run_convert_bytes_back (P := Tryd.prog) w 22 9 5 ⟨g, 0, none⟩ cap l Tryd.underlying22 Tryd.underlying5 Tryd.underlying9 (fun j hj => ?_)
    rw [addr_add, Nat.zero_add, cell_of_block h2]
    have : (cur.toList.take (l.length * 1))[j]? = some (.int .u8 (l[j]).toNat) := by rw [h6]; simp [hj]
    rw [List.getElem?_take_of_lt (by omega)] at this
    simpa using this

set_option maxRecDepth 100000 in
set_option maxHeartbeats 4000000 in
theorem works_any (w : World) (hw : Gl w) : Calls Tryd.prog 9 #[] w fun e w' => e = .returned (.bool true) ∧ Keeps (fun _ => False) w w' := by
  have k0 := (Keeps.refl (fun _ => False) w).alloc (.cells #[.int .i64 1, .int .i64 2, .int .i64 0, .int .i64 0, .int .u64 300] 38)
  have TX := text_yes ⟨1, 2, 0, 0, 300⟩ (by rfl) (by decide) (by decide) _ (hw.keeps k0).nms
  rw [text_ex] at TX
  go_enter Tryd.func9, Tryd.ntmps9
  go_wp2_with fail
  refine TX.mono ?_
  rintro e w1 ⟨rfl, k1⟩
  have kk1 := k0.trans k1
  have b1 : w1.heap[w.heap.size]? = some (.cells #[.int .i64 1, .int .i64 2, .int .i64 0, .int .i64 0, .int .u64 300] 38 (0, 0)) := (k1.block _ (by simp) (fun f => f)).trans (MapKept.heap_alloc _ _).1
  have PA := parse_any [122, 101, 114, 111, 32, 55, 32, 48] (by decide) w1 (hw.keeps kk1)
  unfold PPost at PA
  rw [parse_ex] at PA
  clear TX k0 k1
  go_wp2_with fail
  refine PA.mono ?_
  rintro e w2 ⟨rfl, k2⟩
  have kk2 := kk1.trans k2
  have b2 := (k2.block _ (lt_of_block b1) (fun f => f)).trans b1
  have hlt := lt_of_block b2
  obtain ⟨c0, c1, c2, c3, c4⟩ := cells5 b2
  obtain ⟨W3, hW3⟩ : ∃ W, W = (w2.alloc (.cells #[.int .i64 9, .int .i64 7, .int .i64 0, .int .i64 0, .int .u64 0] 38)).alloc (.cells #[.int .i64 1, .int .i64 2, .int .i64 0, .int .i64 0, .int .u64 300, .int .i64 15, .int .i64 0, .int .i64 0, .int .i64 0, .int .u64 0] 38) := ⟨_, rfl⟩
  have kk3 : Keeps (fun _ => False) w W3 := by rw [hW3]; exact (kk2.alloc _).alloc _
  have b3 : W3.heap[w2.heap.size + 1]? = some (.cells #[.int .i64 1, .int .i64 2, .int .i64 0, .int .i64 0, .int .u64 300, .int .i64 15, .int .i64 0, .int .i64 0, .int .i64 0, .int .u64 0] 38 (0, 0)) := by rw [hW3]; exact heap_two _ _ _
  have d3 : W3.heap[w2.heap.size]? = some (.cells #[.int .i64 9, .int .i64 7, .int .i64 0, .int .i64 0, .int .u64 0] 38 (0, 0)) := by
    rw [hW3]; exact ((MapKept.heap_alloc _ _).2 _ (by simp)).trans (MapKept.heap_alloc _ _).1
  have IA : InsAt W3 (.slice (some ⟨w2.heap.size + 1, 0, none⟩) 2 2) [⟨1, 2, 0, 0, 300⟩, ⟨15, 0, 0, 0, 0⟩] := by
    refine ⟨⟨_, 2, rfl, fun k hk => ⟨_, 0, rfl, ?_⟩⟩, by simp [I5.wf], by decide⟩
    have : k = 0 ∨ k = 1 := by simp at hk; omega
    rcases this with rfl | rfl
    · refine ⟨?_, ?_, ?_, ?_, ?_⟩ <;> (rw [cell_of_block b3]; rfl)
    · refine ⟨?_, ?_, ?_, ?_, ?_⟩ <;> (rw [cell_of_block b3]; rfl)
  have BY := bytes_any _ _ _ IA
  clear PA b1 k2 IA b3
  go_wp2_with fail
  rw [← hW3]
  refine BY.mono ?_
  rintro e w4 ⟨hB, k4⟩
  obtain ⟨v4, rfl, B4⟩ := hB.1 (by rfl)
  rw [bytes_ex] at B4
  have kk4 := kk3.trans k4
  have d4 := (k4.block _ (lt_of_block d3) (fun f => f)).trans d3
  clear BY hB kk3 c0 c1 c2 c3 c4 b2 kk1 kk2 d3 k4 hW3
  have IF : ∀ w, Calls Tryd.prog 17 #[.int .i64 3] w fun e w' => e = .returned (.tuple #[.agg #[.int .i64 3, .bool false, .bool false, .bool true, .bool true], .bool true]) ∧ Keeps (fun _ => False) w w' := info_yes 3 (by decide) (by decide)
  go_wp2_with fail
  refine (IF _).mono ?_
  rintro e w5 ⟨rfl, k5⟩
  have kA := (Keeps.refl (fun _ => False) w5).alloc (.cells #[.int .i64 3, .bool false, .bool false, .bool true, .bool true] 52)
  have B5 := (B4.keeps k5 (fun _ _ f => f)).keeps kA (fun _ _ f => f)
  have kk5 := (kk4.trans k5).trans kA
  have d5 := (k5.block _ (lt_of_block d4) (fun f => f)).trans d4
  have d6 := (kA.block _ (lt_of_block d5) (fun f => f)).trans d5
  have hcv : (convert 22 9 v4).run Tryd.prog (w5.alloc (.cells #[.int .i64 3, .bool false, .bool false, .bool true, .bool true] 52)) = .ok (.string ⟨#[1, 2, 172, 2, 15]⟩) (w5.alloc (.cells #[.int .i64 3, .bool false, .bool false, .bool true, .bool true] 52)) := bts_string B5
  have hcv2 : (convert 22 9 (.slice (some ⟨w5.heap.size + 1, 0, none⟩) 5 5)).run Tryd.prog ((w5.alloc (.cells #[.int .i64 3, .bool false, .bool false, .bool true, .bool true] 52)).alloc (.cells #[.int .u8 1, .int .u8 2, .int .u8 172, .int .u8 2, .int .u8 15] 5)) = .ok (.string ⟨#[1, 2, 172, 2, 15]⟩) ((w5.alloc (.cells #[.int .i64 3, .bool false, .bool false, .bool true, .bool true] 52)).alloc (.cells #[.int .u8 1, .int .u8 2, .int .u8 172, .int .u8 2, .int .u8 15] 5)) :=
    run_convert_bytes_back (P := Tryd.prog) _ 22 9 5 ⟨w5.heap.size + 1, 0, none⟩ 5 [1, 2, 172, 2, 15] Tryd.underlying22 Tryd.underlying5 Tryd.underlying9 (fun j hj => by
      rw [addr_add, cell_of_block (heap_two _ _ _)]
      have : j = 0 ∨ j = 1 ∨ j = 2 ∨ j = 3 ∨ j = 4 := by simp at hj; omega
      rcases this with rfl | rfl | rfl | rfl | rfl <;> rfl)
  obtain ⟨c0, c1, c2, c3, c4⟩ := cells5 d6
  have hn6 := (hw.keeps kk5).nms
  have kk6 := kk5.alloc (.cells #[.int .u8 1, .int .u8 2, .int .u8 172, .int .u8 2, .int .u8 15] 5)
  have hn7 := (hw.keeps kk6).nms
  have NA : Calls Tryd.prog 18 #[.int .i64 17] ((w5.alloc (.cells #[.int .i64 3, .bool false, .bool false, .bool true, .bool true] 52)).alloc (.cells #[.int .u8 1, .int .u8 2, .int .u8 172, .int .u8 2, .int .u8 15] 5)) fun e w' => e = .returned (.string ⟨#[104, 97, 108, 116]⟩) ∧ w' = (w5.alloc (.cells #[.int .i64 3, .bool false, .bool false, .bool true, .bool true] 52)).alloc (.cells #[.int .u8 1, .int .u8 2, .int .u8 172, .int .u8 2, .int .u8 15] 5) := name_yes 17 (by decide) (by decide) _ hn7
  clear IF B4 d4 k5 kk4 d5 d6 kA B5 hn6 hn7
  go_wp2_with (first | (go_at_call 7; refine (num_any _ _).mono ?_; rintro e w' ⟨rfl, rfl⟩) | (go_at_call 18; refine NA.mono ?_; rintro e w' ⟨rfl, rfl⟩))
  go_ret
  exact ⟨rfl, kk6⟩
end Go.Proofs.YtijommlodgpphaaDoor
