import Derived.Test.YtpdjpjkieafnbaaGreatDoorR7
set_option linter.unusedVariables false
set_option linter.unusedSimpArgs false
namespace Go.Proofs.YtpdjpjkieafnbaaGreatDoor.Li
open Go.RowKit Lb
/-- A number's text, cut: its sign, is it hexadecimal, its digits ahead of the point and behind it. -/
def cNg (s : List UInt8) : Bool := Lib.hasPrefix s [45]
def cK1 (s : List UInt8) : Nat := if cNg s then 1 else 0
def cHx (s : List UInt8) : Bool := Lib.hasPrefix (s.drop (cK1 s)) [48, 120]
def cK2 (s : List UInt8) : Nat := cK1 s + if cHx s then 2 else 0
def cWh (s : List UInt8) : List UInt8 := (s.drop (cK2 s)).takeWhile (isX (cHx s))
def cK3 (s : List UInt8) : Nat := cK2 s + (cWh s).length
def cDot (s : List UInt8) : Bool := !(cWh s == []) && Lib.hasPrefix (s.drop (cK3 s)) [46]
def cPt (s : List UInt8) : List UInt8 := if cDot s then (s.drop (cK3 s + 1)).takeWhile (isX (cHx s)) else []
def cK4 (s : List UInt8) : Nat := if cDot s then cK3 s + 1 + (cPt s).length else cK3 s
def cGo (s : List UInt8) : Bool := !(cWh s == []) && (!(cDot s) || !(cPt s == []))
def cNP (s : List UInt8) : Bool := cGo s && cpN (cHx s) s (cK4 s)
def cDP (s : List UInt8) : List UInt8 := if cGo s then cpD (cHx s) s (cK4 s) else []
def cAt (s : List UInt8) : Nat := if cGo s then cpK (cHx s) s (cK4 s) else cK4 s
def cOk (s : List UInt8) : Bool := cGo s && cpO (cHx s) s (cK4 s)
theorem pre_len {s p : List UInt8} (h : Lib.hasPrefix s p = true) : p.length ≤ s.length := by
  unfold Lib.hasPrefix at h
  rw [List.isPrefixOf_iff_prefix] at h
  exact h.length_le
theorem cK1_le (s : List UInt8) : cK1 s ≤ s.length := by
  unfold cK1
  split
  · rename_i h
    have := pre_len h
    simpa using this
  · omega
theorem cK2_le (s : List UInt8) : cK2 s ≤ s.length := by
  have h1 := cK1_le s
  unfold cK2
  split
  · rename_i h
    have := pre_len h
    rw [List.length_drop] at this
    simp at this
    omega
  · omega
theorem cK3_le (s : List UInt8) : cK3 s ≤ s.length := (tw_cut _ s (cK2 s)).2 (cK2_le s)
theorem cDot_lt {s : List UInt8} (h : cDot s = true) : cK3 s + 1 ≤ s.length := by
  unfold cDot at h
  rw [Bool.and_eq_true] at h
  have := pre_len h.2
  rw [List.length_drop] at this
  simp at this
  have := cK3_le s
  omega
theorem cK4_le (s : List UInt8) : cK4 s ≤ s.length := by
  unfold cK4
  split
  · rename_i h
    have := (tw_cut (isX (cHx s)) s (cK3 s + 1)).2 (cDot_lt h)
    unfold cPt
    rw [if_pos h]
    exact this
  · exact cK3_le s
theorem pre_any (s p : List UInt8) (w : World) : Calls Tryz.prog 133 #[.string ⟨s.toArray⟩, .string ⟨p.toArray⟩] w fun e w' => e = .returned (.bool (Lib.hasPrefix s p)) ∧ w' = w := by
  have h := Tryz.strings_HasPrefix ⟨s.toArray⟩ ⟨p.toArray⟩ w
  rw [dt_mk, dt_mk] at h
  exact h
end Go.Proofs.YtpdjpjkieafnbaaGreatDoor.Li
