
/- The walks of Keys and Len (layer 22). No statement of the seat is proved here. -/
import Derived.Test.YtifmpiiaebnbiaaSkQ
namespace Go.Proofs.Ytifmpiiaebnbiaa
open Go.RowKit

/-- A count in a cell. -/
def cntO (n : Nat) : Obj := .cells #[.int .i64 (n : Int)] 3 (0, 0)
set_option maxHeartbeats 400000 in
theorem len1_any (X : World) (kq n : Nat) (k : Int) (hn : n ≤ 65536) (h : X.heap[kq]? = some (cntO n)) : Calls Try.prog 40 #[.int .u64 k, .pointer (some ⟨kq, 0, none⟩)] X fun e X' => e = .returned (.tuple #[]) ∧ X' = X.setCell ⟨kq, 0, none⟩ (.int .i64 ((n : Int) + 1)) := by
  have c0 : X.cell? ⟨kq, 0, none⟩ = some (.int .i64 (n : Int)) := by rw [cell_of_block h]; rfl
  have f0 : X.frozen? ⟨kq, 0, none⟩ = false := frozen_of_block h 0
  have hwk : IntKind.i64.wrap ((n : Int) + 1) = (n : Int) + 1 := by rw [IntKind.wrap_i64]; omega
  clear h
  go_enter Try.func40, Try.ntmps40
  go_wp2_with fail
  first | refine bodyPost_ret (results_none rfl _ _ _) rfl ?_ | refine bodyPost_end (results_none rfl _ _ _) rfl ?_
  exact ⟨rfl, rfl⟩
theorem tel_len (kq : Nat) : Tel 40 kq (fun out X => X.heap[kq]? = some (cntO out.length)) (fun _ k => k = kq) where
  ent := enters (by kernel_rfl)
  call X out k hl h := by
    refine (len1_any X kq out.length k hl h).mono ?_
    rintro e X' ⟨rfl, rfl⟩
    refine ⟨rfl, ?_, (Keeps.refl (fun i => i = kq) X).setCell (p := ⟨kq, 0, none⟩) (.inr rfl) _, fun i e => .inl e⟩
    rw [block_set h 0 _]
    simp [cntO]
  keep h k hs := ⟨(k.block kq (lt_of_block h) (fun e => hs _ e rfl)).trans h, fun _ e => e⟩
  lt h e := by rw [e]; exact lt_of_block h
/-- A list in a cell: its row is the call's own. -/
def KsAt (B kq : Nat) (out : List Int) (X : World) : Prop := ∃ v, X.heap[kq]? = some (.cells #[v] 24 (0, 0)) ∧ Wr X B v out ∧ v.ownBlock ≠ some kq
def KsF (kq : Nat) (X : World) (k : Nat) : Prop := k = kq ∨ ∃ v t fr, X.heap[kq]? = some (.cells #[v] t fr) ∧ v.ownBlock = some k
theorem ks_push {B kq : Nat} {out : List Int} {X : World} (hb : B ≤ X.heap.size) (hl : out.length ≤ 65536) (h : KsAt B kq out X) (k : Int) :
    ∃ v v' X', X.cell? ⟨kq, 0, none⟩ = some v ∧ X'.cell? ⟨kq, 0, none⟩ = some v ∧ X'.frozen? ⟨kq, 0, none⟩ = false ∧ (Builtin.append_ #[24, 24] 24 #[v, .slice (some ⟨X.heap.size, 0, none⟩) 1 1]).run Try.prog (X.alloc (.cells #[.int .u64 k] 32)) = .ok v' X' ∧ (∃ a' c', v' = .slice a' (out.length + 1) c') ∧
      KsAt B kq (out ++ [k]) (X'.setCell ⟨kq, 0, none⟩ v') ∧ Keeps (KsF kq X) X (X'.setCell ⟨kq, 0, none⟩ v') ∧ ∀ i, KsF kq (X'.setCell ⟨kq, 0, none⟩ v') i → KsF kq X i ∨ X.heap.size ≤ i := by
  obtain ⟨v, q1, q2, q3⟩ := h
  have k0 : Keeps (fun _ => False) X (X.alloc (.cells #[.int .u64 k] 32)) := keeps_new X _
  have b0 := alloc_block X (.cells #[.int .u64 k] 32)
  obtain ⟨v', X', r1, r2, r3, r4⟩ := own_push (P := Try.prog) (X.alloc (.cells #[.int .u64 k] 32)) B 24 24 32 (.int .u64 0) 1 8 Try.underlying24 info_word rfl (by decide) v out.length (wordsV out) (own_keeps q2 k0 (fun _ _ f => f)) ⟨X.heap.size, 0, none⟩ 1 1 [.int .u64 k] rfl (fun j u hj => by
    rw [addr_add, Nat.zero_add, cell_of_block b0]
    simpa using hj) (by simp [Value.oneCell']) (by omega) (by decide) (by simp; omega)
  have hkl := lt_of_block q1
  have kb : X'.heap[kq]? = X.heap[kq]? := (r3.block kq (by simp; omega) (fun e => q3 e.symm)).trans (k0.block kq hkl (fun f => f))
  have hnb : v'.ownBlock ≠ some kq := by
    rcases r4 with e | e
    · rw [e]; exact q3
    · intro e2
      have := e kq e2
      simp at this
      omega
  have hbox : (X'.setCell ⟨kq, 0, none⟩ v').heap[kq]? = some (.cells #[v'] 24 (0, 0)) := by rw [block_set (kb.trans q1) 0 v']; rfl
  refine ⟨v, v', X', by rw [cell_of_block q1]; rfl, by rw [cell_of_block (kb.trans q1)]; rfl, frozen_of_block (kb.trans q1) 0, r1, ?_, ⟨v', hbox, ?_, hnb⟩, ?_, fun i hi => ?_⟩
  · rcases r2.2 with ⟨_, e⟩ | ⟨g', cap, cur, e, _⟩
    · omega
    · exact ⟨_, _, e⟩
  · have r2' : X'.ownsRow B 32 1 v' (out ++ [k]).length (wordsV (out ++ [k])) := by
      rw [wordsV_append, List.length_append]
      exact r2
    exact own_keep r2' (fun j hj => Below.heap_setCell _ _ _ _ (fun e => by
      have e' : j = kq := e
      subst e'
      exact hnb hj))
  · have kA : Keeps (KsF kq X) X X' := ⟨r3.os.trans k0.os, r3.tape.trans k0.tape, r3.output.trans k0.output, Nat.le_trans k0.size r3.size, fun i hi hs => (r3.block i (by simp; omega) (fun e => hs (.inr ⟨_, _, _, q1, e.symm⟩))).trans (k0.block i hi (fun f => f))⟩
    exact kA.setCell (p := ⟨kq, 0, none⟩) (.inr (.inl rfl)) v'
  · rcases hi with e | ⟨u, t, fr, e1, e2⟩
    · exact .inl (.inl e)
    · rw [hbox] at e1
      simp at e1
      obtain ⟨rfl, _⟩ := e1
      rcases r4 with e | e
      · exact .inl (.inr ⟨_, _, _, q1, by rw [← e]; exact e2⟩)
      · have := e i e2
        simp at this
        exact .inr (by omega)
set_option maxHeartbeats 400000 in
theorem keys1_any (B X : _) (kq : Nat) (out : List Int) (k : Int) (hb : B ≤ X.heap.size) (hl : out.length ≤ 65536) (h : KsAt B kq out X) : Calls Try.prog 39 #[.int .u64 k, .pointer (some ⟨kq, 0, none⟩)] X fun e X' => e = .returned (.tuple #[]) ∧ KsAt B kq (out ++ [k]) X' ∧ Keeps (KsF kq X) X X' ∧ ∀ i, KsF kq X' i → KsF kq X i ∨ X.heap.size ≤ i := by
  obtain ⟨v, v', X', c0, c1, f1, hr, ⟨a', c', rfl⟩, h1, h2, h3⟩ := ks_push hb hl h k
  have HR : Hid (_ = _) := hr
  have HP := hid (And.intro h1 (And.intro h2 h3))
  clear h hr h1 h2 h3
  go_enter Try.func39, Try.ntmps39
  go_wp2_with (at_builtin; refine wpList_append_run rfl _ _ 24 rfl rfl rfl HR.out ?_; clear HR)
  first | refine bodyPost_ret (results_none rfl _ _ _) rfl ?_ | refine bodyPost_end (results_none rfl _ _ _) rfl ?_
  exact ⟨rfl, HP.out⟩
theorem tel_keys (B kq : Nat) : Tel 39 kq (fun out X => B ≤ X.heap.size ∧ KsAt B kq out X) (KsF kq) where
  ent := enters (by kernel_rfl)
  call X out k hl h := by
    refine (keys1_any B X kq out k h.1 hl h.2).mono ?_
    rintro e X' ⟨rfl, h1, h2, h3⟩
    exact ⟨rfl, ⟨Nat.le_trans h.1 h2.size, h1⟩, h2, h3⟩
  keep := by
    intro S X X' out h k hs
    obtain ⟨hb, v, q1, q2, q3⟩ := h
    have kb := k.block kq (lt_of_block q1) (fun e => hs _ e (.inl rfl))
    refine ⟨⟨Nat.le_trans hb k.size, v, kb.trans q1, own_keeps q2 k (fun g hg e => hs g e (.inr ⟨_, _, _, q1, hg⟩)), q3⟩, fun i hi => ?_⟩
    rcases hi with e | ⟨u, t, fr, e1, e2⟩
    · exact .inl e
    · exact .inr ⟨u, t, fr, kb ▸ e1, e2⟩
  lt := by
    intro X out k h e
    obtain ⟨hb, v, q1, q2, q3⟩ := h
    rcases e with e | ⟨u, t, fr, e1, e2⟩
    · rw [e]; exact lt_of_block q1
    · rw [q1] at e1
      simp at e1
      obtain ⟨rfl, _⟩ := e1
      exact (own_block q2 e2).1
set_option maxHeartbeats 1000000 in
theorem len_any (b g c : Nat) (s : Wd) (at_ : Int) (hat : isW at_) (rms : Rm s 131100) (w : World) (h : WdAt 27 w b g c s) :
    Calls Try.prog 15 #[.iface 23 (.pointer (some ⟨b, 0, none⟩)), .int .u64 at_] w fun e w' => e = .returned (.tuple #[.int .i64 (s.len at_).1.1, .int .i64 (s.len at_).1.2]) ∧ Hs 27 w b g c w' (s.len at_).2 := by
  have HE : Hid (Ea (fun out X => X.heap[w.heap.size]? = some (cntO out.length)) (fun _ k => k = w.heap.size) w b g c (w.alloc (cntO 0)) s []) := by
    have l := Lo.new h (cntO 0)
    exact hid ⟨(Hs.start h).new (keeps_new w _), l.at_, fun k e => by subst e; exact ⟨Nat.le_refl _, l.no⟩⟩
  clear h
  unfold Wd.len
  obtain ⟨⟨⟨out, e⟩, s1⟩, eq1⟩ : ∃ r, s.each at_ = r := ⟨_, rfl⟩
  have HC : Hid (Calls Try.prog 38 #[.iface 23 (.pointer (some ⟨b, 0, none⟩)), .int .u64 at_, .func (.func 40) #[] #[.pointer (some ⟨w.heap.size, 0, none⟩)]] (w.alloc (cntO 0)) fun e' w' => e' = .returned (.int .i64 e) ∧ Ea (fun out X => X.heap[w.heap.size]? = some (cntO out.length)) (fun _ k => k = w.heap.size) w b g c w' s1 out) := by
    have q := each_any (tel_len w.heap.size) b g c s at_ hat rms w _ HE.out
    rw [eq1] at q
    exact hid q
  rw [eq1]
  dsimp only
  clear HE eq1
  by_cases he : e = 0
  · subst he
    rw [if_neg (by simp)]
    go_enter Try.func15, Try.ntmps15
    go_wp2_with fail
    refine HC.out.mono ?_
    rintro e_ w1 ⟨rfl, h1⟩
    have c0 : w1.cell? ⟨w.heap.size, 0, none⟩ = some (.int .i64 (out.length : Int)) := by rw [cell_of_block h1.j]; rfl
    have H1 := hid h1.hs
    clear HC h1
    go_wp2_with fail
    go_ret2
    exact ⟨rfl, H1.out⟩
  · rw [if_pos he]
    go_enter Try.func15, Try.ntmps15
    go_wp2_with fail
    refine HC.out.mono ?_
    rintro e_ w1 ⟨rfl, h1⟩
    have H1 := hid h1.hs
    clear HC h1
    go_wp2_with fail
    go_ret2
    exact ⟨rfl, H1.out⟩
set_option maxHeartbeats 1000000 in
theorem keys_any (b g c : Nat) (s : Wd) (at_ : Int) (hat : isW at_) (rms : Rm s 131100) (w : World) (h : WdAt 27 w b g c s) :
    Calls Try.prog 14 #[.iface 23 (.pointer (some ⟨b, 0, none⟩)), .int .u64 at_] w fun e w' => ∃ v, e = .returned (.tuple #[v, .int .i64 (s.keys at_).1.2]) ∧ Wr w' w.heap.size v (s.keys at_).1.1 ∧ (∀ k, v.ownBlock = some k → ¬ own w' b g k) ∧ Hs 27 w b g c w' (s.keys at_).2 := by
  have HE : Hid (Ea (fun out X => w.heap.size ≤ X.heap.size ∧ KsAt w.heap.size w.heap.size out X) (KsF w.heap.size) w b g c (w.alloc (.cells #[.slice none 0 0] 24 (0, 0))) s []) := by
    have l := Lo.new h (.cells #[.slice none 0 0] 24 (0, 0))
    refine hid ⟨(Hs.start h).new (keeps_new w _), ⟨by simp, _, l.at_, Wr.nil _ _, by simp [Value.ownBlock]⟩, fun k e => ?_⟩
    rcases e with e | ⟨u, t, fr, e1, e2⟩
    · subst e; exact ⟨Nat.le_refl _, l.no⟩
    · rw [l.at_] at e1
      simp at e1
      obtain ⟨rfl, _⟩ := e1
      simp [Value.ownBlock] at e2
  clear h
  unfold Wd.keys
  obtain ⟨⟨⟨out, e⟩, s1⟩, eq1⟩ : ∃ r, s.each at_ = r := ⟨_, rfl⟩
  have HC : Hid (Calls Try.prog 38 #[.iface 23 (.pointer (some ⟨b, 0, none⟩)), .int .u64 at_, .func (.func 39) #[] #[.pointer (some ⟨w.heap.size, 0, none⟩)]] (w.alloc (.cells #[.slice none 0 0] 24 (0, 0))) fun e' w' => e' = .returned (.int .i64 e) ∧ Ea (fun out X => w.heap.size ≤ X.heap.size ∧ KsAt w.heap.size w.heap.size out X) (KsF w.heap.size) w b g c w' s1 out) := by
    have q := each_any (tel_keys w.heap.size w.heap.size) b g c s at_ hat rms w _ HE.out
    rw [eq1] at q
    exact hid q
  rw [eq1]
  dsimp only
  clear HE eq1
  by_cases he : e = 0
  · subst he
    rw [if_neg (by simp)]
    go_enter Try.func14, Try.ntmps14
    go_wp2_with fail
    refine HC.out.mono ?_
    rintro e_ w1 ⟨rfl, h1⟩
    obtain ⟨_, v, q1, q2, q3⟩ := h1.j
    obtain ⟨a', c', rfl⟩ := q2.form
    have c0 : w1.cell? ⟨w.heap.size, 0, none⟩ = some (.slice a' out.length c') := by rw [cell_of_block q1]; rfl
    have H1 : Hid (Wr w1 w.heap.size (.slice a' out.length c') out ∧ (∀ k, (Value.slice a' out.length c').ownBlock = some k → ¬ own w1 b g k) ∧ Hs 27 w b g c w1 s1) := hid ⟨q2, fun k hk => (h1.fp k (.inr ⟨_, _, _, q1, hk⟩)).2, h1.hs⟩
    clear HC h1 q1 q2 q3
    go_wp2_with fail
    go_ret2
    exact ⟨_, rfl, H1.out⟩
  · rw [if_pos he]
    go_enter Try.func14, Try.ntmps14
    go_wp2_with fail
    refine HC.out.mono ?_
    rintro e_ w1 ⟨rfl, h1⟩
    have H1 := hid h1.hs
    clear HC h1
    go_wp2_with fail
    go_ret2
    exact ⟨_, rfl, Wr.nil _ _, fun k hk => by simp [Value.ownBlock] at hk, H1.out⟩
end Go.Proofs.Ytifmpiiaebnbiaa
