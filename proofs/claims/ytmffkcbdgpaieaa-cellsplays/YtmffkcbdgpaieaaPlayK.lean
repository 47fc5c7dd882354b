/-
  The law's plays at any step; rows that are made, or not. No statement of the seat is proved here.
-/
import Derived.Test.YtmffkcbdgpaieaaPlayJ
namespace Go.Proofs.Ytmffkcbdgpaieaa
open Go.RowKit

theorem played_none {w : World} {F : Nat → Prop} {e : Ending} {w' : World} (h : e = .returned (.bool true) ∧ Keeps (fun _ => False) w w') : Played w none none F e w' := ⟨h.1, .inl ⟨rfl, rfl⟩, h.2.mono (fun _ _ f => f.elim)⟩
theorem played_same {w : World} {p q : Option Addr} {F : Nat → Prop} {e : Ending} {w' : World} (hB : Both w p q F) (h : e = .returned (.bool true) ∧ Keeps (fun _ => False) w w') : Played w p q F e w' := ⟨h.1, hB.kept h.2 (fun _ _ f => f), h.2.mono (fun _ _ f => f.elim)⟩

theorem plays_any (kd who to lv ad wd od bh : Int) (sp : Option Addr) (l sc : Nat) (vs : List Int) (p q : Option Addr) (F : Nat → Prop) (w : World) (h : Both w p q F) (had : 0 ≤ ad) (had' : ad ≤ 18446744073709551615) (hwd : 0 ≤ wd) (hwd' : wd ≤ 18446744073709551615)
    (hn : vs.length = l) (hr : Reads w sp vs) (h0 : sp = none → sc = 0) (hb : l * 8 ≤ 140737488351232) (hv : Wf vs) (hs : 0 < l → ∀ x, sp = some x → ¬ F x.block) :
    Calls Try.prog 19 #[.pointer p, .pointer q, .agg #[.int .i64 kd, .int .i64 who, .int .i64 to, .int .i64 lv, .int .u64 ad, .int .u64 wd, .int .u64 od, .int .u64 bh, .slice sp l sc]] w (Played w p q F) := by
  by_cases hk : kd < 1 ∨ 8 < kd
  · exact (plays_other who to lv ad wd od bh sp l sc kd p q w hk).mono fun _ _ h1 => played_same h h1
  by_cases e7 : kd = 7
  · subst e7
    exact (plays7_any who to lv ad wd od bh sp l sc p q F w h).mono fun _ _ h1 => played_same h h1
  by_cases e8 : kd = 8
  · subst e8
    exact (plays8_any who to lv ad wd od bh sp l sc p q F w h had).mono fun _ _ h1 => played_same h h1
  rcases h with ⟨rfl, rfl⟩ | ⟨b, c, d, f, cap, rest, ws, n, rfl, rfl, h, hb', hc, hd, hf⟩
  · have : kd = 1 ∨ kd = 2 ∨ kd = 3 ∨ kd = 4 ∨ kd = 5 ∨ kd = 6 := by omega
    rcases this with rfl | rfl | rfl | rfl | rfl | rfl
    · exact (plays1_none who to lv ad wd od bh sp l sc w).mono fun _ _ h1 => played_none h1
    · exact (plays2_none who to lv ad wd od bh sp l sc w).mono fun _ _ h1 => played_none h1
    · exact (plays3_none who to lv ad wd od bh sp l sc w).mono fun _ _ h1 => played_none h1
    · exact (plays4_none who to lv ad wd od bh sp l sc w).mono fun _ _ h1 => played_none h1
    · exact (plays5_none who to lv ad wd od bh sp l sc w vs hn hr h0 hb).mono fun _ _ h1 => played_none h1
    · exact (plays6_none who to lv ad wd od bh sp l sc w).mono fun _ _ h1 => played_none h1
  · have : kd = 1 ∨ kd = 2 ∨ kd = 3 ∨ kd = 4 ∨ kd = 5 ∨ kd = 6 := by omega
    rcases this with rfl | rfl | rfl | rfl | rfl | rfl
    · exact (plays1_at who to lv ad wd od bh sp l sc b c d f cap rest ws n w h had).mono fun _ _ h1 => h1.played hb' hc hd hf
    · exact (plays2_at who to lv ad wd od bh sp l sc b c d f cap rest ws n w h had hwd hwd').mono fun _ _ h1 => h1.played hb' hc hd hf
    · exact (plays3_at who to lv ad wd od bh sp l sc b c d f cap rest ws n w h had hwd hwd').mono fun _ _ h1 => h1.played hb' hc hd hf
    · exact (plays4_at who to lv ad wd od bh sp l sc b c d f cap rest ws n w h had).mono fun _ _ h1 => h1.played hb' hc hd hf
    · exact (plays5_at who to lv ad wd od bh sp l sc b c d f cap rest ws n vs w h had had' hn hr h0 hb hv (fun h0 x hx => by
        have := hs h0 x hx
        exact ⟨fun e => this (e ▸ hb'), fun e => this (e ▸ hc), fun e => this (e ▸ hd), fun e => this (e ▸ hf)⟩)).mono fun _ _ h1 => h1.played hb' hc hd hf
    · exact (plays6_at who to lv ad wd od bh sp l sc b c d f cap rest ws n w h had).mono fun _ _ h1 => h1.played hb' hc hd hf

/-- A row of the program's is handed back in new memory, or none. -/
def OptRow (w : World) (ws : List Int) (ok : Bool) (er : Int) (e : Ending) (w' : World) : Prop :=
  ∃ p, e = .returned (.tuple #[.pointer p, .int .i64 er]) ∧ Keeps (fun _ => False) w w' ∧ ((ok = false ∧ p = none) ∨ (ok = true ∧ ∃ b c, p = some ⟨b, 0, none⟩ ∧ w.heap.size ≤ b ∧ w.heap.size ≤ c ∧ RowAt w' 74 36 b c ws 0))
/-- A row of the document's is handed back in new memory, or none. -/
def OptRef (w : World) (ws : List Int) (ok : Bool) (er : Int) (e : Ending) (w' : World) : Prop :=
  ∃ p, e = .returned (.tuple #[.pointer p, .int .i64 er]) ∧ Keeps (fun _ => False) w w' ∧ ((ok = false ∧ p = none) ∨ (ok = true ∧ ∃ b c cap rest, p = some ⟨b, 0, none⟩ ∧ w.heap.size ≤ b ∧ w.heap.size ≤ c ∧ RefAt w' b c cap rest ws 0))

theorem new_opt (n : Int) (w : World) (ok : Bool) (hok : decide (1 ≤ n ∧ n ≤ 65536) = ok) (er : Int) (her : (if ok then 0 else 2) = er) : Calls Try.prog 9 #[.int .i64 n] w (OptRow w (List.replicate n.toNat 0) ok er) := by
  by_cases h : 1 ≤ n ∧ n ≤ 65536
  · obtain rfl : ok = true := by rw [← hok]; simp [h]
    obtain rfl : (0 : Int) = er := her
    exact (new_yes n w h.1 h.2).mono fun _ _ ⟨h1, h2, h3⟩ => ⟨_, h1, h3, .inr ⟨rfl, _, _, rfl, by omega, by omega, h2⟩⟩
  · obtain rfl : ok = false := by rw [← hok]; simp; omega
    obtain rfl : (2 : Int) = er := her
    exact (new_no n w (by omega)).mono fun _ _ ⟨h1, h2⟩ => ⟨_, h1, h2 ▸ Keeps.refl _ _, .inl ⟨rfl, rfl⟩⟩
theorem rnew_opt (n : Int) (w : World) (ok : Bool) (hok : decide (1 ≤ n ∧ n ≤ 65536) = ok) (er : Int) (her : (if ok then 0 else 2) = er) : Calls Try.prog 11 #[.int .i64 n] w (OptRef w (List.replicate n.toNat 0) ok er) := by
  by_cases h : 1 ≤ n ∧ n ≤ 65536
  · obtain rfl : ok = true := by rw [← hok]; simp [h]
    obtain rfl : (0 : Int) = er := her
    exact (rnew_yes n w h.1 h.2).mono fun _ _ ⟨b, c, cap, rest, h1, h2, h3, h4, h5⟩ => ⟨_, h1, h5, .inr ⟨rfl, b, c, cap, rest, rfl, h2, h3, h4⟩⟩
  · obtain rfl : ok = false := by rw [← hok]; simp; omega
    obtain rfl : (2 : Int) = er := her
    exact (rnew_no n w (by omega)).mono fun _ _ ⟨h1, h2⟩ => ⟨_, h1, h2 ▸ Keeps.refl _ _, .inl ⟨rfl, rfl⟩⟩
theorem of_opt (sp : Option Addr) (l c : Nat) (ws : List Int) (w : World) (hn : ws.length = l) (hr : Reads w sp ws) (ok : Bool) (hok : decide (1 ≤ l ∧ l ≤ 65536) = ok) (er : Int) (her : (if ok then 0 else 2) = er) : Calls Try.prog 10 #[.slice sp l c] w (OptRow w ws ok er) := by
  by_cases h : 1 ≤ l ∧ l ≤ 65536
  · obtain rfl : ok = true := by rw [← hok]; simp [h]
    obtain rfl : (0 : Int) = er := her
    exact (of_yes sp l c ws w hn hr h.1 h.2).mono fun _ _ ⟨h1, h2, h3⟩ => ⟨_, h1, h3, .inr ⟨rfl, _, _, rfl, by omega, by omega, h2⟩⟩
  · obtain rfl : ok = false := by rw [← hok]; simp; omega
    obtain rfl : (2 : Int) = er := her
    exact (of_no sp l c w (by omega)).mono fun _ _ ⟨h1, h2⟩ => ⟨_, h1, h2 ▸ Keeps.refl _ _, .inl ⟨rfl, rfl⟩⟩
theorem rof_opt (sp : Option Addr) (l c : Nat) (ws : List Int) (w : World) (hn : ws.length = l) (hr : Reads w sp ws) (ok : Bool) (hok : decide (1 ≤ l ∧ l ≤ 65536) = ok) (er : Int) (her : (if ok then 0 else 2) = er) : Calls Try.prog 12 #[.slice sp l c] w (OptRef w ws ok er) := by
  by_cases h : 1 ≤ l ∧ l ≤ 65536
  · obtain rfl : ok = true := by rw [← hok]; simp [h]
    obtain rfl : (0 : Int) = er := her
    exact (rof_yes sp l c ws w hn hr h.1 h.2).mono fun _ _ ⟨b, c, cap, rest, h1, h2, h3, h4, h5⟩ => ⟨_, h1, h5, .inr ⟨rfl, b, c, cap, rest, rfl, h2, h3, h4⟩⟩
  · obtain rfl : ok = false := by rw [← hok]; simp; omega
    obtain rfl : (2 : Int) = er := her
    exact (rof_no sp l c w (by omega)).mono fun _ _ ⟨h1, h2⟩ => ⟨_, h1, h2 ▸ Keeps.refl _ _, .inl ⟨rfl, rfl⟩⟩

/-- Two rows made, or none: alike. -/
theorem both_made {wa wb wc wd we : World} {ws : List Int} {ok : Bool} {p q : Option Addr} (hp : (ok = false ∧ p = none) ∨ (ok = true ∧ ∃ b c, p = some ⟨b, 0, none⟩ ∧ wa.heap.size ≤ b ∧ wa.heap.size ≤ c ∧ RowAt wb 74 36 b c ws 0))
    (hq : (ok = false ∧ q = none) ∨ (ok = true ∧ ∃ b c cap rest, q = some ⟨b, 0, none⟩ ∧ wc.heap.size ≤ b ∧ wc.heap.size ≤ c ∧ RefAt wd b c cap rest ws 0)) (hwf : Wf ws) (k1 : Keeps (fun _ => False) wb we) (k2 : Keeps (fun _ => False) wd we) (hbc : wb.heap.size ≤ wc.heap.size) :
    p.isNone = (!ok) ∧ q.isNone = (!ok) ∧ Both we p q (fun k => (wa.heap.size ≤ k ∧ k < wb.heap.size) ∨ (wc.heap.size ≤ k ∧ k < wd.heap.size)) := by
  rcases hp with ⟨rfl, rfl⟩ | ⟨rfl, b, c, rfl, h1, h2, h3⟩
  · rcases hq with ⟨_, rfl⟩ | ⟨h, _⟩
    · exact ⟨rfl, rfl, .inl ⟨rfl, rfl⟩⟩
    · cases h
  · rcases hq with ⟨h, _⟩ | ⟨_, d, f, cap, rest, rfl, g1, g2, g3⟩
    · cases h
    · have l1 := h3.ltb
      have l2 := h3.ltc
      have l3 := g3.ltb
      have l4 := g3.ltc
      exact ⟨rfl, rfl, .inr ⟨b, c, d, f, cap, rest, ws, 0, rfl, rfl, ⟨h3.kept k1 (fun f => f) (fun f => f), g3.kept k2 (fun f => f) (fun f => f), hwf, by omega, by omega, by omega, by omega⟩, .inl ⟨h1, l1⟩, .inl ⟨h2, l2⟩, .inr ⟨g1, l3⟩, .inr ⟨g2, l4⟩⟩⟩
theorem Wf.zeros (n : Nat) : Wf (List.replicate n 0) := fun x hx => by
  rw [List.eq_of_mem_replicate hx]
  omega

end Go.Proofs.Ytmffkcbdgpaieaa
