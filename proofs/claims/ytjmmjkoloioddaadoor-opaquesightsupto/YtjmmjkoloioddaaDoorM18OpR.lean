/-
  No statement of the seat is proved here. (Several texts in one: OpR, OpS, OpT.)
-/
import Derived.Test.YtjmmjkoloioddaaDoorOpQ
import Derived.Test.YtjmmjkoloioddaaDoorM17EvL

/- A walk of look (layer 16). No statement of the seat is proved here. -/
namespace Go.Proofs.YtjmmjkoloioddaaDoor
open Go.RowKit Go.Shelf

theorem MapS.new (w : World) : MapS (w.alloc (.map #[] 0)) w.heap.size (fun _ => none) := ⟨#[], 0, [], (MapKept.heap_alloc w (.map #[] 0)).1, rfl, List.nodup_nil, fun _ => rfl⟩
@[go_sem] theorem run_mkMapS (w : World) : (Instr.makeMap 67 none).run Tryd.prog w = .ok (.map (some w.heap.size)) (w.alloc (.map #[] 0)) := by
  simp [Instr.makeMap, Result.andThen]
theorem tries_bound {L : List Ev} (hl : L.length ≤ 1050000) (hz : (checkL L).2 = 0) (k : Nat) (hk : k < L.length) : ((triesF tr0 (L.take k) 0).l.length + 1) * 56 ≤ 140737488355328 := by
  have := tries_few hz k (by omega); omega
/-- An error of look's. -/
def lkV (F : List Int) (L : List Ev) : Int × Int :=
  if F.length = 0 ∨ 65536 < F.length then (-1, 2) else if (checkL L).2 ≠ 0 then checkL L else if 0 ≤ idxF plainE L 0 then (idxF plainE L 0, 260) else if 0 ≤ idxF (missE F.length) L 0 then (idxF (missE F.length) L 0, 4) else (-1, 0)
/-- What look answers of a history here. -/
def LkPost (F : List Int) (L : List Ev) (vF : Value) (w : World) (ex : Ending) (w' : World) : Prop :=
  ∃ (pb mb b2 : Nat) (vT vB vW : Value) (X Y : List Bx) (f : Int → Option Sl), ex = .returned (.tuple #[.pointer (some ⟨pb, 0, none⟩), .agg (odV (-1) 0)]) ∧ PaAt w' pb mb b2 vF vT vB vW F (triesL L) X Y f ∧ X.map (·.p) = partsL L ∧ PuA F (triesL L) X Y ∧ Keeps (fun _ => False) w w'
set_option maxRecDepth 100000 in
set_option maxHeartbeats 8000000 in
theorem look_ok (va : Option Addr) (vc : Nat) (F : List Int) (v : Value) (L : List Ev) (hl : L.length ≤ 1050000) (w : World) (hv : EvsAt w v L) (hF : WsAt w (.slice va F.length vc) F) (hg : Gv w) (h8 : 2 ≤ w.heap.size) (hF0 : 0 < F.length) (hF1 : F.length ≤ 65536) (hz : (checkL L).2 = 0) (hp : idxF plainE L 0 = -1) (hm : idxF (missE F.length) L 0 = -1) :
    Calls Tryd.prog 12 #[.slice va F.length vc, v] w (LkPost F L (.slice va F.length vc) w) := by
  have hck : checkL L = (-1, 0) := chk_yes L st0 0 hz
  have k0 := (Keeps.refl (fun _ => False) w).alloc (.cells (odV 0 0) 28)
  have b0 : (w.alloc (.cells (odV 0 0) 28)).heap[w.heap.size]? = some (.cells (odV 0 0) 28 (0, 0)) := (MapKept.heap_alloc w _).1
  have hs0 : (w.alloc (.cells (odV 0 0) 28)).heap.size = w.heap.size + 1 := by simp
  have TR := tries_any v L (w.alloc (.cells (odV 0 0) 28)) (hv.keeps k0) (hg.keeps k0) (by omega) (fun hz => tries_bound hl hz)
  rw [hck] at TR
  dsimp only at TR
  rw [if_pos rfl, hs0] at TR
  unfold odV at TR k0 b0
  have HV : Hid (∀ X, Keeps (fun _ => False) w X → EvsAt X v L ∧ Gv X ∧ WsAt X (.slice va F.length vc) F) := fun X k => ⟨hv.keeps k, hg.keeps k, hF.keeps wC_ne k⟩
  have HFb : Hid (∀ a n c, Value.slice va F.length vc = .slice (some a) n c → a.block < w.heap.size) := fun a n c e => by
    obtain ⟨g, off, e1, hc⟩ := hF.at 0 hF0
    injection e with e2
    rw [e1] at e2
    injection e2 with e2
    rw [← e2]
    exact World.block_lt_of_cell? _ _ (hc 0 _ rfl)
  have HWF : Hid (∀ e ∈ L, 0 ≤ e.ad) := fun e he => (hv.wf e he).2.2.1.1
  obtain ⟨a1, cap1, rfl, hcap⟩ := hv.els.shape
  have hFn : ¬ ((F.length : Int) = 0) := by omega
  have hFb2 : ((F.length : Int) == 0) = false := by rw [beq_eq_false_iff_ne]; exact hFn
  have hFg : ¬ ((F.length : Int) > 65536) := by omega
  have HHp : Hid (idxF plainE L 0 = -1 ∧ idxF (missE F.length) L 0 = -1 ∧ (checkL L).2 = 0) := ⟨hp, hm, hz⟩
  clear hv hF hg hp hm hz hck hs0
  go_enter Tryd.func12, Tryd.ntmps12
  go_wp2_with fail
  refine TR.mono ?_
  rintro ex w1 ⟨tv, rfl, hT, k1⟩
  clear TR
  obtain ⟨ta, tc, rfl⟩ := hT.form
  have K1 := k0.trans k1
  have B1 := (k1.block _ (lt_of_block b0) (fun f => f)).trans b0
  have kA := (Keeps.refl (fun _ => False) w1).alloc (.cells #[.int .i64 (-1), .int .i64 0] 28)
  have bA := (MapKept.heap_alloc w1 (.cells #[.int .i64 (-1), .int .i64 0] 28)).1
  have hsA : (w1.alloc (.cells #[.int .i64 (-1), .int .i64 0] 28)).heap.size = w1.heap.size + 1 := by simp
  have kM := (Keeps.refl (fun _ => False) (w1.alloc (.cells #[.int .i64 (-1), .int .i64 0] 28))).alloc (.map #[] 0)
  have mM := MapS.new (w1.alloc (.cells #[.int .i64 (-1), .int .i64 0] 28))
  rw [hsA] at mM
  have hsM : ((w1.alloc (.cells #[.int .i64 (-1), .int .i64 0] 28)).alloc (.map #[] 0)).heap.size = w1.heap.size + 2 := by simp
  have kP := (Keeps.refl (fun _ => False) ((w1.alloc (.cells #[.int .i64 (-1), .int .i64 0] 28)).alloc (.map #[] 0))).alloc (.cells #[.slice va F.length vc, .slice ta (triesL L).length tc, .slice none 0 0, .slice none 0 0, .map (some (w1.heap.size + 1))] 70)
  have bP := (MapKept.heap_alloc ((w1.alloc (.cells #[.int .i64 (-1), .int .i64 0] 28)).alloc (.map #[] 0)) (.cells #[.slice va F.length vc, .slice ta (triesL L).length tc, .slice none 0 0, .slice none 0 0, .map (some (w1.heap.size + 1))] 70)).1
  rw [hsM] at bP
  have KZ := ((K1.trans kA).trans kM).trans kP
  have B0Z := ((((kA.trans kM).trans kP).block _ (lt_of_block B1) (fun f => f)).trans B1)
  have bAZ := ((kM.trans kP).block _ (lt_of_block bA) (fun f => f)).trans bA
  have mZ := mM.keeps kP (fun f => f)
  have hTZ := hT.keeps ((kA.trans kM).trans kP) (fun _ _ f => f)
  have hTl : ∀ q, (Value.slice ta (triesL L).length tc).ownBlock = some q → q < w1.heap.size := fun q hq => (own_block hT.own hq).1
  have hw1 : w.heap.size < w1.heap.size := lt_of_block B1
  have IPx := idx_plain (.slice a1 L.length cap1) L _ (HV.out _ KZ).1
  rw [HHp.out.1] at IPx
  obtain ⟨Z, hZ⟩ : ∃ Z, Z = ((w1.alloc (.cells #[.int .i64 (-1), .int .i64 0] 28)).alloc (.map #[] 0)).alloc (.cells #[.slice va F.length vc, .slice ta (triesL L).length tc, .slice none 0 0, .slice none 0 0, .map (some (w1.heap.size + 1))] 70) := ⟨_, rfl⟩
  rw [← hZ] at bP KZ B0Z bAZ mZ hTZ IPx
  have hsZ : Z.heap.size = w1.heap.size + 3 := by rw [hZ]; simp
  have HZ : Hid (Z = _) := hZ
  obtain ⟨m1, hm1⟩ : ∃ m1, m1 = w1.heap.size := ⟨_, rfl⟩
  clear kA bA hsA kM mM hsM kP hT k0 k1 b0 K1 B1
  go_wp2_with fail
  rw [← hZ, ← hm1]
  rw [← hm1] at bP bAZ mZ hsZ hw1 hTl
  clear hZ HZ hm1
  refine IPx.mono ?_
  rintro ex Z2 ⟨rfl, kz2⟩
  clear IPx
  have p0 : Z.cell? ⟨m1 + 2, 0, none⟩ = some (.slice va F.length vc) := by rw [cell_of_block bP]; rfl
  have IMx := idx_miss (.slice a1 L.length cap1) L (m1 + 2) F.length vc va Z2 (HV.out _ (KZ.trans kz2)).1 (kz2.cellB (fun f => f) p0) hF1
  rw [HHp.out.2.1] at IMx
  go_wp2_with fail
  refine IMx.mono ?_
  rintro ex Z3 ⟨rfl, kz3⟩
  clear IMx
  have K23 := kz2.trans kz3
  have hs3 := K23.size
  have BL := blocks_any (.slice a1 L.length cap1) L (by omega) HHp.out.2.2 Z3 (HV.out _ (KZ.trans K23)).1 (HV.out _ (KZ.trans K23)).2.1 (by have := KZ.size; omega)
  go_wp2_with fail
  refine BL.mono ?_
  rintro ex Z4 ⟨vB, X, rfl, hB, hX, k4⟩
  clear BL
  obtain ⟨xa, xc, hvB⟩ := hB.own.form
  subst hvB
  have K24 := K23.trans k4
  have bP4 := (K24.block _ (lt_of_block bP) (fun f => f)).trans bP
  have f2 : Z4.frozen? ⟨m1 + 2, 2, none⟩ = false := frozen_of_block bP4 _
  have p2 : Z4.cell? ⟨m1 + 2, 2, none⟩ = some (.slice none 0 0) := by rw [cell_of_block bP4]; rfl
  have bP5 := block_set bP4 2 (.slice xa X.length xc)
  change (Z4.setCell ⟨m1 + 2, 2, none⟩ (.slice xa X.length xc)).heap[m1 + 2]? = some (pastC (.slice va F.length vc) (.slice ta (triesL L).length tc) (.slice xa X.length xc) (.slice none 0 0) (m1 + 1)) at bP5
  have k5 := (Keeps.refl (fun q => q = m1 + 2) Z4).setCell (p := ⟨m1 + 2, 2, none⟩) (.inr rfl) (.slice xa X.length xc)
  have hB5 := hB.keeps k5 (fun q h1 h2 e => by omega)
  have hXl : X.length ≤ 1050000 := by
    rw [← List.length_map (f := (·.p)), hX]
    have := (pinv_parts L).len
    change (partsL L).length ≤ L.length at this
    omega
  have hbd : ∀ x ∈ X, x.p.rs.length ≤ 1050000 ∧ x.p.ws.length ≤ 1050000 := fun x hx => by
    have h1 : x.p ∈ partsL L := by rw [← hX]; exact List.mem_map.2 ⟨x, hx, rfl⟩
    have := (pinv_parts L).bd x.p h1
    omega
  have hinl : ∀ x ∈ X, (∀ e ∈ x.p.rs, 0 ≤ e.1 ∧ e.1 < (F.length : Int)) ∧ (∀ e ∈ x.p.ws, 0 ≤ e.1 ∧ e.1 < (F.length : Int)) := fun x hx => by
    have h1 : x.p ∈ partsL L := by rw [← hX]; exact List.mem_map.2 ⟨x, hx, rfl⟩
    refine inL_parts (n := F.length) (fun e he => ⟨HWF.out e he, fun hk => ?_⟩) x.p h1
    have hno : missE F.length e = false := by
      rcases idxF_in (missE F.length) L 0 with ⟨_, h⟩ | ⟨j, h, _⟩
      · exact h e he
      · rw [HHp.out.2.1] at h; omega
    unfold missE at hno
    rcases hk with hk | hk <;> · rw [hk] at hno; simpa using hno
  have SE := settle_any (m1 + 2) (m1 + 1) Z3.heap.size (.slice va F.length vc) (.slice ta (triesL L).length tc) (.slice xa X.length xc) F X hXl (by rw [hX]; exact distL_parts L) (fun x hx => (hinl x hx).2) (fun x hx => (hbd x hx).2) (by omega) (by omega) (by omega) _ bP5 ((mZ.keeps K24 (fun f => f)).keeps k5 (by omega)) ((HV.out _ (KZ.trans K24)).2.2.keepsB wC_ne k5 (fun a n c e h => by have := HFb.out a n c e; omega)) (fun a n c e => by have := HFb.out a n c e; omega) hB5
  have HX : Hid (X.map (·.p) = partsL L) := hX
  have HBD : Hid ((∀ x ∈ X, x.p.rs.length ≤ 1050000 ∧ x.p.ws.length ≤ 1050000) ∧ (∀ x ∈ X, (∀ e ∈ x.p.rs, 0 ≤ e.1 ∧ e.1 < (F.length : Int)) ∧ (∀ e ∈ x.p.ws, 0 ≤ e.1 ∧ e.1 < (F.length : Int)))) := ⟨hbd, hinl⟩
  have HTX : Hid ((triesL L).length = X.length ∧ ∀ t ∈ triesL L, t.fi ≤ t.la ∧ 0 ≤ t.fi ∧ t.la < 1100000) := by
    have h1 := tries_parts HHp.out.2.2
    have h2 := congrArg List.length h1
    rw [List.length_map, List.length_map] at h2
    refine ⟨by rw [h2, ← hX, List.length_map], fun t ht => ⟨tries_le HHp.out.2.2 t ht, ?_⟩⟩
    have h3 : key3T t ∈ (partsL L).map key3 := by rw [← h1]; exact List.mem_map.2 ⟨t, ht, rfl⟩
    obtain ⟨p, hp, e⟩ := List.mem_map.1 h3
    have := (pinv_parts L).bd p hp
    unfold key3 key3T at e
    injection e with _ e
    injection e with e1 e2
    omega
  generalize hZ5 : Z4.setCell ⟨m1 + 2, 2, none⟩ (.slice xa X.length xc) = Z5 at *
  have K45 : Keeps (fun q => q = m1 + 2) Z Z5 := (K24.mono fun _ _ f => f.elim).trans k5
  have HK5 : Hid (Keeps (fun q => q = m1 + 2) Z Z5 ∧ RwL Bx.cb 9 81 Z5 Z3.heap.size (.slice xa X.length xc) X) := ⟨K45, hB5⟩
  clear k5 K45 hB5 hB hX hbd hinl k4 bP4 bP5
  go_wp2_with fail
  clear hZ5
  refine SE.mono ?_
  rintro ex Z6 ⟨rfl, vW, Y, f, q1, q2, hse⟩
  clear SE f2 p2
  have K6 : Keeps (fun q => q = m1 + 2 ∨ q = m1 + 1) Z Z6 := (HK5.out.1.mono fun q _ e => .inl e).trans hse.kp
  have b7 := (K6.block _ (lt_of_block bAZ) (by omega)).trans bAZ
  have bO := (K6.block _ (lt_of_block B0Z) (by omega)).trans B0Z
  have hS0 : Z6.cell? ⟨m1, 0, none⟩ = some (.int .i64 (-1)) ∧ Z6.cell? ⟨m1, 1, none⟩ = some (.int .i64 0) := ⟨by rw [cell_of_block b7]; rfl, by rw [cell_of_block b7]; rfl⟩
  have c0 : Z6.cell? ⟨w.heap.size, 0, none⟩ = some (.int .i64 0) := by rw [cell_of_block bO]; rfl
  have c1 : Z6.cell? ⟨w.heap.size, 1, none⟩ = some (.int .i64 0) := by rw [cell_of_block bO]; rfl
  have f0 : Z6.frozen? ⟨w.heap.size, 0, none⟩ = false := frozen_of_block bO _
  have f1 : Z6.frozen? ⟨w.heap.size, 1, none⟩ = false := frozen_of_block bO _
  have hne : ¬ w.heap.size = m1 := by omega
  have BE : Hid (((Z6.setCell ⟨w.heap.size, 0, none⟩ (.int .i64 (-1))).setCell ⟨w.heap.size, 1, none⟩ (.int .i64 0)).heap[w.heap.size]? = some (.cells (odV (-1) 0) 28 (0, 0))) := block_set (block_set bO 0 (.int .i64 (-1))) 1 (.int .i64 0)
  have HF : Hid (LkPost F L (.slice va F.length vc) w (.returned (.tuple #[.pointer (some ⟨m1 + 2, 0, none⟩), .agg (odV (-1) 0)])) ((Z6.setCell ⟨w.heap.size, 0, none⟩ (.int .i64 (-1))).setCell ⟨w.heap.size, 1, none⟩ (.int .i64 0)).drew) := by
    have kE := (((Keeps.refl (fun q => q = w.heap.size) Z6).setCell (p := ⟨w.heap.size, 0, none⟩) (.inr rfl) (.int .i64 (-1))).setCell (p := ⟨w.heap.size, 1, none⟩) (.inr rfl) (.int .i64 0)).drew
    generalize ((Z6.setCell ⟨w.heap.size, 0, none⟩ (.int .i64 (-1))).setCell ⟨w.heap.size, 1, none⟩ (.int .i64 0)).drew = ZE at *
    have K7 : Keeps (fun q => q = m1 + 2 ∨ q = m1 + 1 ∨ q = w.heap.size) Z ZE := (K6.mono fun q _ e => by omega).trans (kE.mono fun q _ e => by omega)
    have KW : Keeps (fun _ => False) w ZE := KZ.young K7 (fun q e => by omega)
    have hlo := hse.lo
    have h5s := HK5.out.1.size
    have hT6 := hTZ.keeps K7 (fun q hq e => by have h1 := (own_block hTZ.own hq); have h2 : q < m1 := by
                                                 rcases hTZ.own.2 with ⟨h3, _⟩ | _
                                                 · rw [h3] at hq; simp [Value.ownBlock] at hq
                                                 · exact hTl q hq
                                               omega)
    refine ⟨m1 + 2, m1 + 1, q2, _, _, vW, X, Y, f, rfl, ⟨(kE.block _ (lt_of_block hse.blk) (by omega)).trans hse.blk, (HV.out ZE KW).2.2, hT6.els ty_len, ?_, fun x hx => ?_, fun x hx => ?_, ?_, ?_⟩, HX.out, ⟨hse.up, hse.perm, hXl, HTX.out.1, HBD.out.2, HBD.out.1, hF1, HTX.out.2⟩, KW⟩
    · exact ((HK5.out.2.own.keeps hse.kp (fun q hq e => by have := own_block HK5.out.2.own.own hq; omega)).keeps kE (fun q hq e => by have := own_block HK5.out.2.own.own hq; omega)).els cb_len
    · exact (((HK5.out.2.rws.rd x hx).keeps hse.kp (fun q hq e => by have := own_block (HK5.out.2.rws.rd x hx).own hq; omega)).keeps kE (fun q hq e => by have := own_block (HK5.out.2.rws.rd x hx).own hq; omega)).els en_len
    · exact (((HK5.out.2.rws.wt x hx).keeps hse.kp (fun q hq e => by have := own_block (HK5.out.2.rws.wt x hx).own hq; omega)).keeps kE (fun q hq e => by have := own_block (HK5.out.2.rws.wt x hx).own hq; omega)).els en_len
    · exact (hse.row.keeps kE (fun q hq e => by have := own_block hse.row.own hq; omega)).els cb_len
    · exact hse.st.keeps kE (by omega) (fun q h1 h2 e => by omega)
  clear b7 bO K6 hse bAZ B0Z mZ hTZ bP KZ
  go_wp2_with fail
  go_region_held3 (fun W : World => W.cell? ⟨m1, 0, none⟩ = some (.int .i64 (-1)) ∧ W.cell? ⟨m1, 1, none⟩ = some (.int .i64 0)) (first | assumption | (exact hS0) | go_keep) (fail)
  go_wp2_with fail
  refine bodyPost_ret (odd_ret2 rfl _ _ w.heap.size (odV (-1) 0) BE.out rfl rfl) rfl ?_
  exact HF.out
end Go.Proofs.YtjmmjkoloioddaaDoor


/- A walk of Check (layer 16) where a history is one here. No statement of the seat is proved here. -/
namespace Go.Proofs.YtjmmjkoloioddaaDoor
open Go.RowKit Go.Shelf

def atN (s : Sg) : Bool := decide (s.at_ < 0)
set_option maxRecDepth 100000 in
set_option maxHeartbeats 8000000 in
theorem atN_any (s : Sg) (w : World) : Calls Tryd.prog 15 #[.agg #[.int .i64 s.t.th, .int .i64 s.t.fi, .int .i64 s.t.la, .int .u64 s.t.sn, .int .i64 s.t.how, .int .i64 s.t.rd, .int .i64 s.t.wr, .int .i64 s.fr, .int .i64 s.up, .int .i64 s.at_]] w fun ex w' => ex = .returned (.bool (atN s)) ∧ Keeps (fun _ => False) w w' := by
  have k0 := (Keeps.refl (fun _ => False) w).alloc (.cells #[.int .i64 s.t.th, .int .i64 s.t.fi, .int .i64 s.t.la, .int .u64 s.t.sn, .int .i64 s.t.how, .int .i64 s.t.rd, .int .i64 s.t.wr, .int .i64 s.fr, .int .i64 s.up, .int .i64 s.at_] 40)
  unfold atN
  obtain ⟨⟨a, b, c, d, e, f, g⟩, h, i, j⟩ := s
  dsimp only at k0 ⊢
  go_enter Tryd.func15, Tryd.ntmps15
  go_wp2
  go_ret
  exact ⟨rfl, k0⟩
set_option maxRecDepth 100000 in
set_option maxHeartbeats 8000000 in
theorem idx_sight (v : Value) (L : List Sg) (hl : L.length ≤ 1100000) (w : World) (hv : ElsAt Sg.cl 10 w v L) : Calls Tryd.prog 14 #[v, .func (.func 15) #[] #[]] w fun ex w' => ex = .returned (.int .i64 (idxF atN L 0)) ∧ Keeps (fun _ => False) w w' := by
  have HV : Hid (∀ X, Keeps (fun _ => False) w X → ElsAt Sg.cl 10 X v L) := fun X k => hv.keeps sg_ne k
  obtain ⟨a1, cap1, rfl, hcap⟩ := hv.shape
  clear hv
  obtain ⟨z, hz⟩ : ∃ z, z = idxF atN L 0 := ⟨_, rfl⟩
  rw [← hz]
  have HZ : Hid (z = idxF atN L 0) := hz
  clear hz
  go_enter Tryd.func14, Tryd.ntmps14
  go_wp2_with fail
  go_loopw [8] (fun u wr => ∃ k : Nat, u = .int .i64 k ∧ k ≤ L.length ∧ Hid (z = idxF atN (L.drop k) k) ∧ Keeps (fun _ => False) w wr) (fun u _ => L.length - (intOf u).toNat)
  case atStart => exact ⟨0, rfl, Nat.zero_le _, HZ.out, Keeps.refl _ _⟩
  case round =>
    obtain ⟨k, rfl, hk, hh, kr⟩ := hrel
    by_cases hlt : k < L.length
    · have hki : (k : Int) < L.length := by omega
      have hk0 : (0 : Int) ≤ k := by omega
      obtain ⟨g, off, rfl, hc⟩ := (HV.out wr kr).at k hlt
      have PL := atN_any (L[k]) wr
      have hst := hh.out
      rw [List.drop_eq_getElem_cons hlt, idxF] at hst
      generalize hev : L[k]'hlt = s at *
      clear hev
      have x0 := hc 0 _ rfl
      have x1 := hc 1 _ rfl
      have x2 := hc 2 _ rfl
      have x3 := hc 3 _ rfl
      have x4 := hc 4 _ rfl
      have x5 := hc 5 _ rfl
      have x6 := hc 6 _ rfl
      have x7 := hc 7 _ rfl
      have x8 := hc 8 _ rfl
      have x9 := hc 9 _ rfl
      simp only [Nat.add_zero] at x0
      have HP : Hid (atN s = true ∨ atN s = false) := bool_cases2 _
      rcases HP.out with hp | hp
      · rw [if_pos hp] at hst
        rw [hp] at PL
        clear hp HP HZ hh hc
        have HF : Hid (z = (k : Int)) := hst
        clear hst
        go_wp2_with fail
        refine PL.mono ?_
        rintro ex w2 ⟨rfl, k2⟩
        go_wp2_with fail
        go_ret
        exact ⟨by rw [HF.out]; rfl, kr.trans k2⟩
      · rw [if_neg (by rw [hp]; exact Bool.false_ne_true)] at hst
        rw [hp] at PL
        clear hp HP HZ hh hc
        have HF : Hid (z = _) := hst
        clear hst
        go_wp2_with fail
        refine PL.mono ?_
        rintro ex w2 ⟨rfl, k2⟩
        have kk := kr.trans k2
        clear PL x0 x1 x2 x3 x4 x5 x6 x7 x8 x9 k2
        go_wp2_with fail
        go_roundw
        · exact ⟨k + 1, by simp, by omega, HF.out, kk⟩
        · simp [intOf]; omega
    · obtain rfl : k = L.length := by omega
      have HF : Hid (z = -1) := by have := hh.out; rw [List.drop_length, idxF] at this; exact this
      clear hh
      go_wp2_with fail
      go_ret
      exact ⟨by rw [HF.out]; rfl, kr⟩
theorem pua_wr {F : List Int} {T : List Ty} {X Y : List Bx} {l W : List Pt} (u : PuA F T X Y) (hX : X.map (·.p) = l) (hW : WrOf l W) : Y.map (·.p) = W := by
  refine wr_uniq (l := l) ⟨?_, ?_⟩ hW
  · rw [← hX]
    have := u.perm.map (·.p)
    rwa [show (X.filter fun x => x.p.wr).map (·.p) = (X.map (·.p)).filter (fun p => p.wr) by rw [List.filter_map]; rfl] at this
  · rw [List.pairwise_map]; exact u.up
set_option maxRecDepth 100000 in
set_option maxHeartbeats 8000000 in
theorem check_ok (va : Option Addr) (vc : Nat) (F : List Int) (v : Value) (L : List Ev) (hl : L.length ≤ 1050000) (w : World) (hv : EvsAt w v L) (hF : WsAt w (.slice va F.length vc) F) (hg : Gv w) (h8 : 2 ≤ w.heap.size) (hF0 : 0 < F.length) (hF1 : F.length ≤ 65536) (hz : (checkL L).2 = 0) (hp : idxF plainE L 0 = -1) (hm : idxF (missE F.length) L 0 = -1) (W : List Pt) (hW : WrOf (partsL L) W) :
    Calls Tryd.prog 6 #[.slice va F.length vc, v] w fun ex w' => ex = .returned (.tuple #[.int .i64 (idxF atN (sgK F W (triesL L) (partsL L) (triesL L).length) 0), .agg (odV (-1) 0)]) ∧ Keeps (fun _ => False) w w' := by
  have k0 := (Keeps.refl (fun _ => False) w).alloc (.cells (odV 0 0) 28)
  have b0 : (w.alloc (.cells (odV 0 0) 28)).heap[w.heap.size]? = some (.cells (odV 0 0) 28 (0, 0)) := (MapKept.heap_alloc w _).1
  have LK := look_ok va vc F v L hl (w.alloc (.cells (odV 0 0) 28)) (hv.keeps k0) (hF.keeps wC_ne k0) (hg.keeps k0) (by simp; omega) hF0 hF1 hz hp hm
  have hTl : (triesL L).length ≤ 1100000 := by
    have h1 := congrArg List.length (tries_parts hz)
    rw [List.length_map, List.length_map] at h1
    have := (pinv_parts L).len
    change (partsL L).length ≤ L.length at this
    omega
  have HTl : Hid ((triesL L).length ≤ 1100000) := hTl
  obtain ⟨a1, cap1, rfl, hcap⟩ := hv.els.shape
  unfold odV at k0 b0 LK
  clear hv hF hg hTl
  obtain ⟨res, hres⟩ : ∃ r, r = idxF atN (sgK F W (triesL L) (partsL L) (triesL L).length) 0 := ⟨_, rfl⟩
  rw [← hres]
  have HRes : Hid (res = idxF atN (sgK F W (triesL L) (partsL L) (triesL L).length) 0) := hres
  clear hres
  go_enter Tryd.func6, Tryd.ntmps6
  go_wp2_with fail
  refine LK.mono ?_
  rintro ex w1 ⟨pb, mb, b2, vT, vB, vW, X, Y, f, rfl, hPa, hX, hu, k1⟩
  clear LK
  have hYW := pua_wr hu hX hW
  have kA := (Keeps.refl (fun _ => False) w1).alloc (.cells #[.int .i64 (-1), .int .i64 0] 28)
  have bA := (MapKept.heap_alloc w1 (.cells #[.int .i64 (-1), .int .i64 0] 28)).1
  have bO := ((k1.trans kA).block _ (lt_of_block b0) (fun f => f)).trans b0
  have K1 := (k0.trans k1).trans kA
  have hPA := hPa.keeps kA
  have hlt := lt_of_block ((k1.block _ (lt_of_block b0) (fun f => f)).trans b0)
  rw [← hYW, ← hX] at HRes
  unfold odV
  go_wp2_with fail
  obtain ⟨ob7, hob⟩ : ∃ b, b = w1.heap.size := ⟨_, rfl⟩
  rw [← hob] at bA ⊢
  rw [← hob] at hlt
  generalize w1.alloc (.cells #[.int .i64 (-1), .int .i64 0] 28) = A at *
  clear hob kA k0 k1 b0 hPa
  have SG := sights_any pb mb b2 (.slice va F.length vc) vT vB vW F (triesL L) X Y f A.drew (hPA.keeps (Keeps.refl _ A).drew) hu
  have S0 : Keeps (fun q => q = w.heap.size) A (A.drew) ∧ (A.drew).cell? ⟨ob7, 0, none⟩ = some (.int .i64 (-1)) ∧ (A.drew).cell? ⟨ob7, 1, none⟩ = some (.int .i64 0) := ⟨(Keeps.refl _ A).drew, by rw [cell_of_block (w := A.drew) bA]; rfl, by rw [cell_of_block (w := A.drew) bA]; rfl⟩
  refine wp_held_end (S := fun W => Keeps (fun q => q = w.heap.size) A W ∧ W.cell? ⟨ob7, 0, none⟩ = some (.int .i64 (-1)) ∧ W.cell? ⟨ob7, 1, none⟩ = some (.int .i64 0)) 6 rfl hmxp ?_
  simp only [Array.replicate_succ, Array.replicate_zero, List.push_toArray, List.nil_append, List.cons_append]
  refine held_take (i := 0) (v := (.pointer (some ⟨pb, 0, none⟩))) 18 rfl rfl (by kernel_rfl) (by kernel_rfl) (by kernel_rfl) rfl (fun w' hw' => by obtain ⟨q0, q1, q2⟩ := hw'; go_simp) S0 ?_
  simp only [Act.put, List.setIfInBounds_toArray, List.set_cons_zero, List.set_cons_succ]
  refine held_take (i := 3) (v := (.agg #[.int .i64 (-1), .int .i64 0])) 21 rfl rfl (by kernel_rfl) (by kernel_rfl) (by kernel_rfl) rfl (fun w' hw' => by obtain ⟨q0, q1, q2⟩ := hw'; go_simp) S0 ?_
  simp only [Act.put, List.setIfInBounds_toArray, List.set_cons_zero, List.set_cons_succ]
  refine held_call (i := 1) (f := 13) (args := #[.pointer (some ⟨pb, 0, none⟩)]) 19 (by kernel_rfl) rfl rfl rfl (by go_simp) (SG.mono ?_)
  rintro ex w2 ⟨sv, rfl, hsv, k2⟩
  have S1 : Keeps (fun q => q = w.heap.size) A (w2) ∧ (w2).cell? ⟨ob7, 0, none⟩ = some (.int .i64 (-1)) ∧ (w2).cell? ⟨ob7, 1, none⟩ = some (.int .i64 0) := ⟨S0.1.trans (k2.mono fun _ _ f => f.elim), k2.cellB (fun f => f) S0.2.1, k2.cellB (fun f => f) S0.2.2⟩
  refine ⟨_, rfl, S1, ?_⟩
  simp only [Act.put, List.setIfInBounds_toArray, List.set_cons_zero, List.set_cons_succ]
  refine held_call (i := 2) (f := 14) (args := #[sv, .func (.func 15) #[] #[]]) 20 (by kernel_rfl) rfl rfl rfl (by go_simp) ((idx_sight sv _ (by rw [sgK_len]; exact HTl.out) w2 (hsv.els sg_len)).mono ?_)
  rintro ex w3 ⟨rfl, k3⟩
  have S2 : Keeps (fun q => q = w.heap.size) A (w3) ∧ (w3).cell? ⟨ob7, 0, none⟩ = some (.int .i64 (-1)) ∧ (w3).cell? ⟨ob7, 1, none⟩ = some (.int .i64 0) := ⟨S1.1.trans (k3.mono fun _ _ f => f.elim), k3.cellB (fun f => f) S1.2.1, k3.cellB (fun f => f) S1.2.2⟩
  refine ⟨_, rfl, S2, ?_⟩
  simp only [Act.put, List.setIfInBounds_toArray, List.set_cons_zero, List.set_cons_succ]
  refine held_take (i := 4) (v := (.int .i64 (idxF atN (sgK F (Y.map (·.p)) (triesL L) (X.map (·.p)) (triesL L).length) 0))) 4 rfl rfl (by kernel_rfl) (by kernel_rfl) (by kernel_rfl) rfl (fun w' hw' => by obtain ⟨q0, q1, q2⟩ := hw'; go_simp) S2 ?_
  simp only [Act.put, List.setIfInBounds_toArray, List.set_cons_zero, List.set_cons_succ]
  have S3 : Keeps (fun _ => False) A w3 := ((Keeps.refl (fun _ => False) A).drew.trans k2).trans k3
  have bO3 := (S3.block _ (lt_of_block bO) (fun f => f)).trans bO
  have c0 : w3.cell? ⟨w.heap.size, 0, none⟩ = some (.int .i64 0) := by rw [cell_of_block bO3]; rfl
  have c1 : w3.cell? ⟨w.heap.size, 1, none⟩ = some (.int .i64 0) := by rw [cell_of_block bO3]; rfl
  have f0 : w3.frozen? ⟨w.heap.size, 0, none⟩ = false := frozen_of_block bO3 _
  have f1 : w3.frozen? ⟨w.heap.size, 1, none⟩ = false := frozen_of_block bO3 _
  have BE := block_set (block_set bO3 0 (.int .i64 (-1))) 1 (.int .i64 0)
  have hne : ¬ w.heap.size = ob7 := by omega
  have kE := ((Keeps.refl (fun q => q = w.heap.size) w3).setCell (p := ⟨w.heap.size, 0, none⟩) (.inr rfl) (.int .i64 (-1))).setCell (p := ⟨w.heap.size, 1, none⟩) (.inr rfl) (.int .i64 0)
  have hob7 : ob7 ≠ w.heap.size := by omega
  have KF : Keeps (fun _ => False) w ((w3.setCell ⟨w.heap.size, 0, none⟩ (.int .i64 (-1))).setCell ⟨w.heap.size, 1, none⟩ (.int .i64 0)) := (K1.trans S3).young kE (fun q e => by omega)
  have S4 : Keeps (fun q => q = w.heap.size) A ((w3.setCell ⟨w.heap.size, 0, none⟩ (.int .i64 (-1))).setCell ⟨w.heap.size, 1, none⟩ (.int .i64 0)) ∧ ((w3.setCell ⟨w.heap.size, 0, none⟩ (.int .i64 (-1))).setCell ⟨w.heap.size, 1, none⟩ (.int .i64 0)).cell? ⟨ob7, 0, none⟩ = some (.int .i64 (-1)) ∧ ((w3.setCell ⟨w.heap.size, 0, none⟩ (.int .i64 (-1))).setCell ⟨w.heap.size, 1, none⟩ (.int .i64 0)).cell? ⟨ob7, 1, none⟩ = some (.int .i64 0) := ⟨S2.1.trans kE, cell_keep kE S2.2.1 hob7, cell_keep kE S2.2.2 hob7⟩
  refine held_none (i := 5) (w' := (w3.setCell ⟨w.heap.size, 0, none⟩ (.int .i64 (-1))).setCell ⟨w.heap.size, 1, none⟩ (.int .i64 0)) (by kernel_rfl) rfl rfl rfl (by go_simp) S4 ?_
  refine held_end (by kernel_rfl) ?_ _
  rw [← HRes.out]
  clear S0 S1 S2 S3 S4 c0 c1 f0 f1 hsv k2 k3
  go_wp2_with fail
  refine bodyPost_ret (odd_ret2 rfl _ _ w.heap.size #[.int .i64 (-1), .int .i64 0] BE rfl rfl) rfl ?_
  exact ⟨rfl, KF⟩
end Go.Proofs.YtjmmjkoloioddaaDoor


/- A walk of Clone at words. No statement of the seat is proved here. -/
namespace Go.Proofs.YtjmmjkoloioddaaDoor
open Go.RowKit Go.Shelf

theorem info_wC : (Tryd.prog.info? 35).map (fun i => (i.zero, i.size, i.bytes)) = some (some (.int .u64 0), 1, 8) := by kernel_rfl
abbrev WR (w : World) (base : Nat) (v : Value) (F : List Int) : Prop := OwnR wC 1 35 w base v F
theorem sw_nil_eq (a : Addr) (n c : Nat) (w : World) : (binOp .eql 22 (.slice (some a) n c) (.slice none 0 0)).run Tryd.prog w = .ok (.bool false) w := by kernel_rfl
set_option maxRecDepth 100000 in
set_option maxHeartbeats 8000000 in
theorem clone_any (va : Option Addr) (vc : Nat) (F : List Int) (h0 : 0 < F.length) (hl : F.length ≤ 65536) (w : World) (hF : WsAt w (.slice va F.length vc) F) : Calls Tryd.prog 39 #[.slice va F.length vc] w fun ex w' => ∃ u, ex = .returned u ∧ WR w' w.heap.size u F ∧ Keeps (fun _ => False) w w' := by
  obtain ⟨g, off, rfl, hc⟩ := hF.at 0 h0
  have k0 := (Keeps.refl (fun _ => False) w).alloc (.cells #[] 35)
  have b0 := (MapKept.heap_alloc w (.cells #[] 35)).1
  have o0 : WR (w.alloc (.cells #[] 35)) w.heap.size (.slice (some ⟨w.heap.size, 0, none⟩) 0 0) [] := OwnR.ofBlock (L := []) wC_len b0 rfl (Nat.le_refl _) (by simp [maxLen])
  obtain ⟨v', w', r1, r2, r3⟩ := o0.app wC_len wC_one (by decide) Tryd.underlying22 info_wC rfl (by decide) (ty := 22) (.slice (some ⟨g, off, none⟩) F.length vc) F (hF.keeps wC_ne k0) (by simp; omega)
  rw [List.nil_append] at r2
  have kk := OwnR.kept r3 k0 o0
  obtain ⟨⟨za, zn, zc⟩, rfl, -⟩ := sl_of r2
  dsimp only [Sl.v] at r1
  have HA : Hid (_ = _) := r1
  have hnl := sw_nil_eq ⟨g, off, none⟩ F.length vc
  clear r1 r3 o0 k0 b0 hc hF
  go_enter Tryd.func39, Tryd.ntmps39
  go_wp2_with (at_builtin; refine wpList_append_run rfl _ _ 22 rfl rfl rfl HA.out ?_)
  go_ret
  exact ⟨_, rfl, r2, kk⟩
set_option maxRecDepth 100000 in
set_option maxHeartbeats 8000000 in
theorem behind_no (va : Option Addr) (vc : Nat) (F : List Int) (v : Value) (L : List Ev) (hl : L.length ≤ 1050000) (w : World) (hv : EvsAt w v L) (hF : WsAt w (.slice va F.length vc) F) (hg : Gv w) (h8 : 2 ≤ w.heap.size) (hF0 : 0 < F.length) (hF1 : F.length ≤ 65536) (hz : (checkL L).2 = 0) (hp : idxF plainE L 0 = -1) (hm : idxF (missE F.length) L 0 = -1) (W : List Pt) (hW : WrOf (partsL L) W) (n : Int) (hn : n < 0 ∨ (W.length : Int) < n) :
    Calls Tryd.prog 25 #[.slice va F.length vc, v, .int .i64 n] w fun ex w' => ex = .returned (.tuple #[.slice none 0 0, .agg (odV (-1) 2)]) ∧ Keeps (fun _ => False) w w' := by
  have k0 := (Keeps.refl (fun _ => False) w).alloc (.cells (odV 0 0) 28)
  have b0 : (w.alloc (.cells (odV 0 0) 28)).heap[w.heap.size]? = some (.cells (odV 0 0) 28 (0, 0)) := (MapKept.heap_alloc w _).1
  have LK := look_ok va vc F v L hl (w.alloc (.cells (odV 0 0) 28)) (hv.keeps k0) (hF.keeps wC_ne k0) (hg.keeps k0) (by simp; omega) hF0 hF1 hz hp hm
  obtain ⟨a1, cap1, rfl, hcap⟩ := hv.els.shape
  have HFs : Hid (∀ X, Keeps (fun _ => False) w X → WsAt X (.slice va F.length vc) F) := fun X k => hF.keeps wC_ne k
  unfold odV at k0 b0 LK
  clear hv hF hg
  go_enter Tryd.func25, Tryd.ntmps25
  go_wp2_with fail
  refine LK.mono ?_
  rintro ex w1 ⟨pb, mb, b2, vT, vB, vW, X, Y, f, rfl, hPa, hX, hu, k1⟩
  clear LK
  have hYW := pua_wr hu hX hW
  have hYl : Y.length = W.length := by rw [← hYW, List.length_map]
  have kA := (Keeps.refl (fun _ => False) w1).alloc (.cells #[.int .i64 (-1), .int .i64 0] 28)
  have bA := (MapKept.heap_alloc w1 (.cells #[.int .i64 (-1), .int .i64 0] 28)).1
  have bO := ((k1.trans kA).block _ (lt_of_block b0) (fun f => f)).trans b0
  have K1 := (k0.trans k1).trans kA
  have hPA := hPa.keeps kA
  have hlt := lt_of_block ((k1.block _ (lt_of_block b0) (fun f => f)).trans b0)
  obtain ⟨wa, wc, hvW⟩ : ∃ a c, vW = .slice a W.length c := by
    obtain ⟨a, c, e, _⟩ := hPA.wr.shape
    exact ⟨a, c, by rw [e, hYl]⟩
  have p3 : (w1.alloc (.cells #[.int .i64 (-1), .int .i64 0] 28)).cell? ⟨pb, 3, none⟩ = some (.slice wa W.length wc) := by rw [cell_of_block hPA.blk, hvW]; rfl
  have hsA : (w1.alloc (.cells #[.int .i64 (-1), .int .i64 0] 28)).heap.size = w1.heap.size + 1 := by simp
  have bO1 := (k1.block _ (lt_of_block b0) (fun f => f)).trans b0
  have BE0 := block_set (block_set bO1 0 (.int .i64 (-1))) 1 (.int .i64 2)
  have kE := (Keeps.refl (fun _ => False) ((w1.setCell ⟨w.heap.size, 0, none⟩ (.int .i64 (-1))).setCell ⟨w.heap.size, 1, none⟩ (.int .i64 2))).alloc (.cells #[.int .i64 (-1), .int .i64 0] 28)
  have BE := (kE.block _ (lt_of_block BE0) (fun f => f)).trans BE0
  have KF := (((k0.trans k1).setCell (p := ⟨w.heap.size, 0, none⟩) (.inl (Nat.le_refl _)) (.int .i64 (-1))).setCell (p := ⟨w.heap.size, 1, none⟩) (.inl (Nat.le_refl _)) (.int .i64 2)).trans kE
  have c0 : w1.cell? ⟨w.heap.size, 0, none⟩ = some (.int .i64 0) := by rw [cell_of_block bO1]; rfl
  have c1 : w1.cell? ⟨w.heap.size, 1, none⟩ = some (.int .i64 0) := by rw [cell_of_block bO1]; rfl
  have f0 : w1.frozen? ⟨w.heap.size, 0, none⟩ = false := frozen_of_block bO1 _
  have f1 : w1.frozen? ⟨w.heap.size, 1, none⟩ = false := frozen_of_block bO1 _
  have p3' : w1.cell? ⟨pb, 3, none⟩ = some (.slice wa W.length wc) := by rw [cell_of_block hPa.blk, hvW]; rfl
  have e0 : (w1.alloc (.cells #[.int .i64 (-1), .int .i64 0] 28)).cell? ⟨w1.heap.size, 1, none⟩ = some (.int .i64 0) := by rw [cell_of_block bA]; rfl
  have HB : Hid (_ = _) := BE
  unfold odV
  clear hPa hPA hu hX hYW k0 k1 b0 kA K1 bA bO BE bO1 BE0 kE
  by_cases hn0 : n < 0
  · go_wp2_with fail
    refine bodyPost_ret (odd_ret2 rfl _ _ w.heap.size #[.int .i64 (-1), .int .i64 2] HB.out rfl rfl) rfl ?_
    exact ⟨rfl, KF⟩
  · have hn1 : n > (W.length : Int) := by omega
    go_wp2_with fail
    refine bodyPost_ret (odd_ret2 rfl _ _ w.heap.size #[.int .i64 (-1), .int .i64 2] HB.out rfl rfl) rfl ?_
    exact ⟨rfl, KF⟩
end Go.Proofs.YtjmmjkoloioddaaDoor
