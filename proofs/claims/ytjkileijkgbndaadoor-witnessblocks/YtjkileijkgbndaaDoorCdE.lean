
/- Rows of the call's own that grow, of elements of any size; walks of sevens (package code). No statement of the seat is proved here. -/
import Derived.Test.YtjkileijkgbndaaDoorCdD
import Derived.Deep.Upon
import Derived.Laws.AppendOwn
import Derived.OwnWalk
namespace Go.Proofs.YtjkileijkgbndaaDoor
open Go.RowKit Go.Shelf

/-- An append whose run is known, at its place in the walk. -/
theorem wpList_append_run {P : Program} {w : World} {ops : Array Oper} {rest : List Oper} {o : Oper} {a : Act} {Q : Exit → Act → World → Prop} (hgd : o.guard = none) (s x : Operand) (t : TypeId)
    (ho : o.op = .call { callee := .builtin .append, args := #[s, x], argTypes := #[t, t] }) {v y v' : Value} {w' : World} (hs : a.eval s = v) (hx : a.eval x = y)
    (hrun : (Builtin.append_ #[t, t] o.type #[v, y]).run P w = .ok v' w') (h : wpList P ops Q rest (a.put o.dst v') w') : wpList P ops Q (o :: rest) a w :=
  wpList_plain hgd fun K hK => by
    unfold Oper.wp execOp
    simp only [ho, resolve, invoke, builtin, Sem.run_bind, Sem.run_pure, Result.andThen_ok, List.map_toArray, List.map_cons, List.map_nil, hs, hx, hrun]
    exact hK _ _ h

theorem addr_add (b o i : Nat) : (⟨b, o, none⟩ : Addr).add i = ⟨b, o + i, none⟩ := by unfold Addr.add; split <;> simp_all

theorem own_block {w : World} {base size : Nat} {e : TypeId} {v : Value} {n : Nat} {xs : List Value} (h : w.ownsRow base e size v n xs) {g : Nat} (hg : v.ownBlock = some g) : g < w.heap.size ∧ base ≤ g := by
  rcases h.2 with ⟨rfl, rfl⟩ | ⟨g', cap, cur, rfl, h1, h2, _⟩
  · cases hg
  · cases hg; exact ⟨lt_of_block h2, h1⟩
theorem own_keep {w w' : World} {base size : Nat} {e : TypeId} {v : Value} {n : Nat} {xs : List Value} (h : w.ownsRow base e size v n xs) (hk : ∀ g, v.ownBlock = some g → w'.heap[g]? = w.heap[g]?) : w'.ownsRow base e size v n xs := by
  refine ⟨h.1, ?_⟩
  rcases h.2 with ⟨rfl, rfl⟩ | ⟨g', cap, cur, rfl, h1, h2, h3⟩
  · exact .inl ⟨rfl, rfl⟩
  · exact .inr ⟨g', cap, cur, rfl, h1, (hk g' rfl).trans h2, h3⟩
theorem own_keeps {w w' : World} {base size : Nat} {e : TypeId} {v : Value} {n : Nat} {xs : List Value} {S : Nat → Prop} (h : w.ownsRow base e size v n xs) (k : Keeps S w w') (hs : ∀ g, v.ownBlock = some g → ¬ S g) : w'.ownsRow base e size v n xs :=
  own_keep h fun g hg => k.block g (own_block h hg).1 (hs g hg)

/-- More behind a row of the call's own. -/
theorem own_push {P : Program} (w : World) (base : Nat) (t ty e : TypeId) (z : Value) (size bytes : Nat) (ht : P.underlying t = some (.slice e)) (hinfo : (P.info? e).map (fun i => (i.zero, i.size, i.bytes)) = some (some z, size, bytes)) (hzs : z.cells.size = size) (hsz : 0 < size)
    (v : Value) (n : Nat) (xs : List Value) (hown : w.ownsRow base e size v n xs) (ad : Addr) (m c : Nat) (us : List Value) (hl : us.length = m * size) (hu : ∀ (j : Nat) (u : Value), us[j]? = some u → w.cell? (ad.add j) = some u) (h1 : ∀ u ∈ us, u.oneCell' = true) (hbytes : (n + m) * bytes ≤ 140737488355328) (hb1 : 0 < bytes) (hbase : base ≤ w.heap.size) :
    ∃ v' w', (Builtin.append_ #[t, t] ty #[v, .slice (some ad) m c]).run P w = .ok v' w' ∧ w'.ownsRow base e size v' (n + m) (xs ++ us) ∧ w.grownBy w' v.ownBlock ∧ (v'.ownBlock = v.ownBlock ∨ ∀ g, v'.ownBlock = some g → w.heap.size ≤ g) := by
  obtain ⟨i, hi, hz0, hz1, hz2⟩ := info_parts hinfo
  have hnm : n + m ≤ 140737488355328 := Nat.le_trans (Nat.le_mul_of_pos_right _ hb1) hbytes
  have h63 : n + m ≤ maxLen := by simp only [maxLen]; omega
  obtain ⟨v', w', r1, r2, r3, _⟩ := run_append_own (P := P) w base t ty e i z size bytes ht hi hz0 hz1 hz2 hzs hsz v n xs hown ad m c us hl hu h1 h63 hbytes hbase
  refine ⟨v', w', r1, r2, r3, ?_⟩
  rcases hown.2 with ⟨rfl, rfl⟩ | ⟨g, cap, cur, rfl, q1, q2, q3, q4, q5, q6⟩
  · obtain ⟨v2, w2, s1, s2, _⟩ := run_append_own (P := P) w w.heap.size t ty e i z size bytes ht hi hz0 hz1 hz2 hzs hsz (.slice none 0 0) 0 xs ⟨hown.1, .inl ⟨rfl, rfl⟩⟩ ad m c us hl hu h1 h63 hbytes (Nat.le_refl _)
    rw [r1] at s1
    injection s1 with e1 e2
    subst e1; subst e2
    exact .inr fun g hg => (own_block s2 hg).2
  · by_cases hc : n + m ≤ cap
    · have s1 := run_append_room (P := P) w t ty e i ht hi g n cap cur q2 ad m c us (by rw [hz1]; exact hl) hu h1 hc (by rw [hz1, q5, hl, ← Nat.add_mul]; exact Nat.mul_le_mul_right _ hc)
      rw [r1] at s1
      injection s1 with e1 e2
      exact .inl (by rw [e1]; rfl)
    · have s1 := run_append_grow (P := P) w t ty e i z ht hi hz0 ⟨g, 0, none⟩ n cap xs (by rw [hz1]; exact hown.1) (fun j v0 hj => by
        rw [addr_add, Nat.zero_add, cell_of_block q2]
        have hlt : j < n * size := by
          have := (List.getElem?_eq_some_iff.1 hj).1
          rw [hown.1] at this; omega
        rw [← q6, List.getElem?_take_of_lt hlt] at hj
        simpa using hj) ad m c us (by rw [hz1]; exact hl) hu (by omega) (by simp only [maxLen] at h63; omega) (growslice_fits (by omega) (by rw [hz2]; exact hbytes))
      rw [r1] at s1
      injection s1 with e1 e2
      exact .inr fun g' hg => by rw [e1] at hg; cases hg; exact Nat.le_refl _

theorem info_u8 : (Tryd.prog.info? 5).map (fun i => (i.zero, i.size, i.bytes)) = some (some (.int .u8 0), 1, 1) := by kernel_rfl

/-- A row of bytes of the call's own. -/
structure Bts (w : World) (base : Nat) (v : Value) (l : List UInt8) : Prop where
  own : w.ownsRow base 5 1 v l.length (l.map fun b => Value.int .u8 b.toNat)
  base : base ≤ w.heap.size
theorem Bts.nil (w : World) : Bts w w.heap.size (.slice none 0 0) [] := ⟨⟨rfl, .inl ⟨rfl, rfl⟩⟩, Nat.le_refl _⟩
theorem Bts.keeps {w w' : World} {base : Nat} {v : Value} {l : List UInt8} {S : Nat → Prop} (h : Bts w base v l) (k : Keeps S w w') (hs : ∀ g, v.ownBlock = some g → ¬ S g) : Bts w' base v l :=
  ⟨own_keeps h.own k hs, Nat.le_trans h.base k.size⟩
/-- What changes where a row grows. -/
structure Grew (w w' : World) (v v' : Value) : Prop where
  keeps : Keeps (fun g => v.ownBlock = some g) w w'
  own : v'.ownBlock = v.ownBlock ∨ ∀ g, v'.ownBlock = some g → w.heap.size ≤ g
theorem Grew.refl (w : World) (v : Value) : Grew w w v v := ⟨Keeps.refl _ _, .inl rfl⟩
theorem Grew.trans {a b c : World} {u v x : Value} (h : Grew a b u v) (k : Grew b c v x) : Grew a c u x := by
  refine ⟨⟨k.keeps.os.trans h.keeps.os, k.keeps.tape.trans h.keeps.tape, k.keeps.output.trans h.keeps.output, Nat.le_trans h.keeps.size k.keeps.size, fun g hg hs => (k.keeps.block g (Nat.lt_of_lt_of_le hg h.keeps.size) fun e => ?_).trans (h.keeps.block g hg hs)⟩, ?_⟩
  · rcases h.own with ho | ho
    · exact hs (ho ▸ e)
    · have := ho g e; omega
  · rcases k.own with ko | ko
    · rcases h.own with ho | ho
      · exact .inl (ko.trans ho)
      · exact .inr fun g hg => ho g (ko ▸ hg)
    · exact .inr fun g hg => Nat.le_trans h.keeps.size (ko g hg)
theorem Grew.quiet {a b c : World} {u v : Value} (h : Grew a b u v) (k : Keeps (fun _ => False) b c) : Grew a c u v :=
  ⟨h.keeps.trans (k.mono fun _ _ f => f.elim), h.own⟩
theorem Grew.ahead {a b c : World} {u v : Value} (k : Keeps (fun _ => False) a b) (h : Grew b c u v) : Grew a c u v :=
  ⟨(k.mono fun _ _ f => f.elim).trans h.keeps, by rcases h.own with ho | ho; exact .inl ho; exact .inr fun g hg => Nat.le_trans k.size (ho g hg)⟩

/-- A number, seven bits a byte. -/
def sevL (n : Nat) : List UInt8 := if h : 127 < n then UInt8.ofNat (n % 128 + 128) :: sevL (n / 128) else [UInt8.ofNat n]
termination_by n
decreasing_by omega
theorem sevL_more {n : Nat} (h : 127 < n) : sevL n = UInt8.ofNat (n % 128 + 128) :: sevL (n / 128) := by rw [sevL, dif_pos h]
theorem sevL_last {n : Nat} (h : ¬ 127 < n) : sevL n = [UInt8.ofNat n] := by rw [sevL, dif_neg h]
theorem sevL_pos (n : Nat) : 1 ≤ (sevL n).length := by
  by_cases h : 127 < n
  · rw [sevL_more h]; simp
  · rw [sevL_last h]; simp

theorem or128 (n : Nat) : bits .or .u8 ((n : Int) % 256) 128 = ((n % 128 + 128 : Nat) : Int) := by
  show IntKind.u8.wrap ((BitVec.ofInt 8 ((n : Int) % 256) ||| BitVec.ofInt 8 128).toNat : Nat) = _
  have key : (BitVec.ofInt 8 ((n : Int) % 256) ||| BitVec.ofInt 8 128).toNat = n % 128 + 128 := by
    have h256 : ∀ m : Fin 256, (BitVec.ofNat 8 m.val ||| BitVec.ofInt 8 128).toNat = m.val % 128 + 128 := by decide +kernel
    have h1 := h256 ⟨n % 256, by omega⟩
    rw [show BitVec.ofInt 8 ((n : Int) % 256) = BitVec.ofNat 8 (n % 256) from by
      apply BitVec.eq_of_toNat_eq
      rw [BitVec.toNat_ofInt, BitVec.toNat_ofNat]
      omega]
    rw [h1]
    show n % 256 % 128 + 128 = _
    omega
  rw [key]
  simp [IntKind.wrap, IntKind.signed, IntKind.bits]
  omega

theorem sevL_le : ∀ (k n : Nat), n < 128 ^ (k + 1) → (sevL n).length ≤ k + 1
  | k, n, h => by
    by_cases hg : 127 < n
    · rw [sevL_more hg, List.length_cons]
      cases k with
      | zero => simp at h; omega
      | succ k =>
        have : n / 128 < 128 ^ (k + 1) := by
          have : (128 : Nat) ^ (k + 1 + 1) = 128 ^ (k + 1) * 128 := Nat.pow_succ ..
          omega
        have := sevL_le k (n / 128) this
        omega
    · rw [sevL_last hg]; simp
theorem sevL_le10 {n : Nat} (h : n < 18446744073709551616) : (sevL n).length ≤ 10 := sevL_le 9 n (by omega)

/-- What grew is of the call's own: all that was there is kept. -/
theorem Grew.kept {w wr w' : World} {u u' : Value} {X : List UInt8} (h : Grew wr w' u u') (k : Keeps (fun _ => False) w wr) (hb : Bts wr w.heap.size u X) : Keeps (fun _ => False) w w' :=
  ⟨h.keeps.os.trans k.os, h.keeps.tape.trans k.tape, h.keeps.output.trans k.output, Nat.le_trans k.size h.keeps.size, fun g hg hs => (h.keeps.block g (Nat.lt_of_lt_of_le hg k.size) fun e => by
    have := (own_block hb.own e).2; omega).trans (k.block g hg hs)⟩
end Go.Proofs.YtjkileijkgbndaaDoor
