
/- The program's way to read a program's text, as functions. No statement of the seat is proved here. -/
import Derived.Test.YtlhmlajcgbnihaaGreatDoorAsP
namespace Go.Proofs.YtlhmlajcgbnihaaGreatDoor
open Go.RowKit Go.Shelf

def lowB (c : UInt8) : Bool := decide (97 ≤ c.toNat ∧ c.toNat ≤ 122)
def digB (c : UInt8) : Bool := decide (48 ≤ c.toNat ∧ c.toNat ≤ 57)
def signB (c : UInt8) : Bool := lowB c || digB c || c == 95
/-- May it be a label? -/
def labB (l : List UInt8) : Bool := decide (1 ≤ l.length ∧ l.length ≤ 64) && ((l.head?).map lowB).getD false && l.all signB && (namedN l).isNone

/-- The instruction of words. -/
def parseW : List (List UInt8) → Option I5
  | [] => none
  | h :: ws => match namedN h with
    | none => none
    | some op => if ws.length = partsN op then match decAll ws with
        | none => none
        | some N => if regOk op N then some (insOf op N) else none
      else none
theorem parseL_eq (l : List UInt8) : parseL l = parseW (pcs l) := by
  unfold parseL parseW
  cases pcs l <;> rfl
def joinB : List (List UInt8) → List UInt8
  | [] => []
  | h :: t => h ++ t.flatMap fun x => 32 :: x
theorem pcs_joinB : ∀ ws : List (List UInt8), ws ≠ [] → (∀ x ∈ ws, (32 : UInt8) ∉ x) → pcs (joinB ws) = ws
  | [x], _, h => by simp [joinB]; exact pcs_word x (h x (by simp))
  | x :: y :: t, _, h => by
    have := pcs_joinB (y :: t) (by simp) (fun z hz => h z (by simp [hz]))
    have e : joinB (x :: y :: t) = x ++ 32 :: joinB (y :: t) := by simp [joinB]
    rw [e, pcs_blank _ _ (h x (by simp)), this]
theorem parse_joinB {ws : List (List UInt8)} (hne : ws ≠ []) (h : ∀ x ∈ ws, (32 : UInt8) ∉ x) : parseL (joinB ws) = parseW ws := by
  rw [parseL_eq, pcs_joinB ws hne h]
theorem parseW_facts {ws : List (List UInt8)} {i : I5} (h : parseW ws = some i) (hb : ∀ x ∈ ws, (32 : UInt8) ∉ x) : formedB i = true ∧ textL i = joinB ws ∧ 0 ≤ i.n ∧ i.n < 18446744073709551616 := by
  have hne : ws ≠ [] := by rintro rfl; simp [parseW] at h
  rw [← parse_joinB hne hb] at h
  exact text_parse h

/-- Which part of an instruction, by its operation's name, is a target. -/
def tpart (h : List UInt8) : Option Nat := match namedN h with
  | none => none
  | some k => if tgtB k then some (regsN k + 1) else none
/-- The words in which 0 stands in the place of a label. -/
def lastW (ws : List (List UInt8)) : List UInt8 := (ws.getLast?).getD []
def usesB (ws : List (List UInt8)) : Bool := decide (tpart ((ws.head?).getD []) = some (ws.length - 1)) && labB (lastW ws)
def zeroed (ws : List (List UInt8)) : List (List UInt8) := if usesB ws then ws.set (ws.length - 1) [48] else ws

/-- What has been read. -/
structure Rd where
  code : List I5
  labs : List (List UInt8 × Nat)
  uses : List (List UInt8 × Nat × Nat)
def standR (r : Rd) (name : List UInt8) : Option Rd := if labB name = true ∧ name ∉ r.labs.map (·.1) then some { r with labs := r.labs ++ [(name, r.code.length)] } else none
def useR (r : Rd) (ws : List (List UInt8)) (n : Nat) : List (List UInt8 × Nat × Nat) := if usesB ws then r.uses ++ [(lastW ws, r.code.length, n)] else r.uses
def insR (r : Rd) (ws : List (List UInt8)) (n : Nat) : Option Rd := (parseW (zeroed ws)).map fun i => { code := r.code ++ [i], labs := r.labs, uses := useR r ws n }
/-- A line's words. -/
def lineR (r : Rd) (n : Nat) : List (List UInt8) → Option Rd
  | [] => some r
  | t :: T => if t.getLast? = some 58 then (standR r t.dropLast).bind fun r' => lineR r' n T else insR r (t :: T) n
/-- What of a line is read: neither its byte 10 nor its remark. -/
def bodyL (l : List UInt8) : List UInt8 := (if l.getLast? = some 10 then l.dropLast else l).takeWhile (fun c => c != 59)
/-- All lines; or the number of the first that is none. -/
def readR (r : Rd) (n : Nat) : List (List UInt8) → Nat × Option Rd
  | [] => (n, some r)
  | l :: ls => match lineR r n (toks (bodyL l)) with
    | none => (n, none)
    | some r' => readR r' (n + 1) ls
def setN (code : List I5) (at_ : Nat) (p : Nat) : List I5 := code.modify at_ fun i => { i with n := p }
/-- Labels put in the place of targets. -/
def resR (labs : List (List UInt8 × Nat)) (code : List I5) : List (List UInt8 × Nat × Nat) → Option Nat × List I5
  | [] => (none, code)
  | (name, at_, line) :: us => match labs.lookup name with
    | none => (some line, code)
    | some p => resR labs (setN code at_ p) us
/-- The program, its labels, how many lines; or the line. -/
def readT (l : List UInt8) : Nat × Option (List I5 × List (List UInt8 × Nat)) := match readR ⟨[], [], []⟩ 0 (linesL l) with
  | (n, none) => (n, none)
  | (n, some r) => match resR r.labs r.code r.uses with
    | (some line, _) => (line, none)
    | (none, code) => (n, some (code, r.labs))
end Go.Proofs.YtlhmlajcgbnihaaGreatDoor
