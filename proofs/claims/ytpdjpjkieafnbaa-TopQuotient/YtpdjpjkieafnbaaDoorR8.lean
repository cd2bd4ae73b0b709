import Derived.Test.YtpdjpjkieafnbaaDoorR6
set_option linter.unusedVariables false
set_option linter.unusedSimpArgs false
namespace Go.Proofs.YtpdjpjkieafnbaaDoor.Li
open Go.RowKit Lb
theorem ixB (l : List UInt8) (c : UInt8) : (Lib.indexByte l c < 0) ↔ c ∉ l := by
  induction l with
  | nil => simp [Lib.indexByte]
  | cons b l ih =>
    have hge := Lib.indexByte_ge l c
    unfold Lib.indexByte
    by_cases h : b = c
    · subst h; simp
    · have hb : (b == c) = false := by simpa using h
      rw [hb]
      simp only [Bool.false_eq_true, if_false]
      by_cases h2 : Lib.indexByte l c = -1
      · rw [h2]
        have : c ∉ l := ih.1 (by omega)
        simp [this, Ne.symm h]
      · have h3 : (Lib.indexByte l c == -1) = false := by simpa using h2
        rw [h3]
        simp only [Bool.false_eq_true, if_false]
        have : c ∈ l := by
          refine Classical.byContradiction fun q => ?_
          have := ih.2 q
          omega
        simp [this]
        omega
theorem ixb_no (ts : List UInt8) (c : UInt8) (h : c ∉ ts) : Lib.indexByte ts c = -1 := by
  have h1 := (ixB ts c).2 h
  have h2 := Lib.indexByte_ge ts c
  omega
theorem ixb_yes (ts : List UInt8) (c : UInt8) (h : c ∈ ts) : ∃ x : Nat, Lib.indexByte ts c = (x : Int) := by
  have h1 : ¬ Lib.indexByte ts c < 0 := fun k => (ixB ts c).1 k h
  exact ⟨(Lib.indexByte ts c).toNat, by omega⟩
theorem u8_ne {a : UInt8} {n : Nat} (hn : n < 256) (h : a ≠ (n.toUInt8)) : a.toNat ≠ n := by
  intro e
  apply h
  rw [← e]
  simp
/-- What stands behind the digits. -/
theorem cutPower_any (ng hx : Bool) (wh pt : List UInt8) (s : List UInt8) (k : Nat) (w : World) (hs : s.length ≤ 4096) (hk : k ≤ s.length) :
    Calls Tryd.prog 51 #[.agg #[.bool ng, .bool hx, .string ⟨wh.toArray⟩, .string ⟨pt.toArray⟩, .bool false, .string ⟨#[]⟩], .string ⟨s.toArray⟩, .int .i64 (k : Int)] w fun e w' =>
      e = .returned (.tuple #[.agg #[.bool ng, .bool hx, .string ⟨wh.toArray⟩, .string ⟨pt.toArray⟩, .bool (cpN hx s k), .string ⟨(cpD hx s k).toArray⟩], .int .i64 (cpK hx s k : Nat), .bool (cpO hx s k)]) ∧ Keep w w' := by
  by_cases hE : cpE hx s k = true
  · have h0 := of_decide_eq_true hE
    have hlt := h0.1
    by_cases hS : cpS s k = true
    · have h1 := of_decide_eq_true hS
      have hlt1 := h1.1
      have hJ : cpJ s k = k + 2 := by unfold cpJ; rw [if_pos hS]
      have hDs : (s.drop (k + 2)).takeWhile isD = cpD hx s k := by unfold cpD; rw [if_pos hE, hJ]
      have hK : cpK hx s k = k + 2 + (cpD hx s k).length := by unfold cpK; rw [if_pos hE, hJ]
      have hO : (decide (0 < (cpD hx s k).length) && decide (k + 2 + (cpD hx s k).length = s.length)) = cpO hx s k := by unfold cpO; rw [if_pos hE, hK]
      rw [hK]
      by_cases hm : (s.getD (k + 1) 0) = 45
      · have hN : cpN hx s k = true := by
          unfold cpN
          rw [hE, Bool.true_and]
          exact decide_eq_true ⟨hlt1, by rw [hm]; simp⟩
        rw [hN]
        have hm' : (s.getD (k + 1) 0).toNat = 45 := by rw [hm]; rfl
        cases hx
        · obtain ⟨x, hi⟩ := ixb_yes [101, 69] (s.getD k 0) h0.2
          exact cp_yes_false_m ng wh pt s k w hs hlt x hi hlt1 hm' _ hDs _ hO
        · obtain ⟨x, hi⟩ := ixb_yes [112] (s.getD k 0) h0.2
          exact cp_yes_true_m ng wh pt s k w hs hlt x hi hlt1 hm' _ hDs _ hO
      · have hN : cpN hx s k = false := by
          unfold cpN
          rw [hE, Bool.true_and]
          exact decide_eq_false (fun c => hm (by simpa using c.2))
        rw [hN]
        have hm' : (s.getD (k + 1) 0).toNat = 43 := by
          have := h1.2
          simp only [List.mem_cons, List.not_mem_nil, or_false] at this
          rcases this with c | c
          · rw [c]; rfl
          · exact absurd c hm
        cases hx
        · obtain ⟨x, hi⟩ := ixb_yes [101, 69] (s.getD k 0) h0.2
          exact cp_yes_false_p ng wh pt s k w hs hlt x hi hlt1 hm' _ hDs _ hO
        · obtain ⟨x, hi⟩ := ixb_yes [112] (s.getD k 0) h0.2
          exact cp_yes_true_p ng wh pt s k w hs hlt x hi hlt1 hm' _ hDs _ hO
    · have hJ : cpJ s k = k + 1 := by unfold cpJ; rw [if_neg hS]
      have hDs : (s.drop (k + 1)).takeWhile isD = cpD hx s k := by unfold cpD; rw [if_pos hE, hJ]
      have hK : cpK hx s k = k + 1 + (cpD hx s k).length := by unfold cpK; rw [if_pos hE, hJ]
      have hO : (decide (0 < (cpD hx s k).length) && decide (k + 1 + (cpD hx s k).length = s.length)) = cpO hx s k := by unfold cpO; rw [if_pos hE, hK]
      have hS' : ¬ (k + 1 < s.length ∧ s.getD (k + 1) 0 ∈ [43, 45]) := fun c => hS (decide_eq_true c)
      have hN : cpN hx s k = false := by
        unfold cpN
        rw [hE, Bool.true_and]
        exact decide_eq_false (fun c => hS' ⟨c.1, by simp only [List.mem_cons, List.not_mem_nil, or_false] at *; exact .inr c.2⟩)
      rw [hK, hN]
      by_cases he : k + 1 = s.length
      · cases hx
        · obtain ⟨x, hi⟩ := ixb_yes [101, 69] (s.getD k 0) h0.2
          exact cp_yes_false_e ng wh pt s k w hs hlt x hi he _ hDs _ hO
        · obtain ⟨x, hi⟩ := ixb_yes [112] (s.getD k 0) h0.2
          exact cp_yes_true_e ng wh pt s k w hs hlt x hi he _ hDs _ hO
      · have hlt1 : k + 1 < s.length := by omega
        have n1 : (s.getD (k + 1) 0).toNat ≠ 43 := u8_ne (by omega) (fun c => hS' ⟨hlt1, by rw [c]; decide⟩)
        have n2 : (s.getD (k + 1) 0).toNat ≠ 45 := u8_ne (by omega) (fun c => hS' ⟨hlt1, by rw [c]; decide⟩)
        cases hx
        · obtain ⟨x, hi⟩ := ixb_yes [101, 69] (s.getD k 0) h0.2
          exact cp_yes_false_n ng wh pt s k w hs hlt x hi hlt1 n1 n2 _ hDs _ hO
        · obtain ⟨x, hi⟩ := ixb_yes [112] (s.getD k 0) h0.2
          exact cp_yes_true_n ng wh pt s k w hs hlt x hi hlt1 n1 n2 _ hDs _ hO
  · have hE' : ¬ (k < s.length ∧ s.getD k 0 ∈ mkE hx) := fun c => hE (decide_eq_true c)
    have hD : cpD hx s k = [] := by unfold cpD; rw [if_neg hE]
    have hK : cpK hx s k = k := by unfold cpK; rw [if_neg hE]
    have hN : cpN hx s k = false := by unfold cpN; simp [hE]
    have hO : cpO hx s k = (decide (k = s.length) && !hx) := by unfold cpO; rw [if_neg hE]
    rw [hD, hK, hN, hO]
    by_cases he : k = s.length
    · rw [decide_eq_true he]
      cases hx
      · exact cp_no_false_a ng wh pt s k w he
      · exact cp_no_true_a ng wh pt s k w he
    · rw [decide_eq_false he]
      have hlt : k < s.length := by omega
      cases hx
      · exact cp_no_false_b ng wh pt s k w hlt (ixb_no _ _ (fun c => hE' ⟨hlt, c⟩))
      · exact cp_no_true_b ng wh pt s k w hlt (ixb_no _ _ (fun c => hE' ⟨hlt, c⟩))
end Go.Proofs.YtpdjpjkieafnbaaDoor.Li
set_option linter.unusedVariables false
set_option linter.unusedSimpArgs false
namespace Go.Proofs.YtpdjpjkieafnbaaDoor.Li
open Go.RowKit Lb
/-- A number's text, cut: its sign, is it hexadecimal, its digits ahead of the point and behind it. -/
def cNg (s : List UInt8) : Bool := Lib.hasPrefix s [45]
def cK1 (s : List UInt8) : Nat := if cNg s then 1 else 0
def cHx (s : List UInt8) : Bool := Lib.hasPrefix (s.drop (cK1 s)) [48, 120]
def cK2 (s : List UInt8) : Nat := cK1 s + if cHx s then 2 else 0
def cWh (s : List UInt8) : List UInt8 := (s.drop (cK2 s)).takeWhile (isX (cHx s))
def cK3 (s : List UInt8) : Nat := cK2 s + (cWh s).length
def cDot (s : List UInt8) : Bool := !(cWh s == []) && Lib.hasPrefix (s.drop (cK3 s)) [46]
def cPt (s : List UInt8) : List UInt8 := if cDot s then (s.drop (cK3 s + 1)).takeWhile (isX (cHx s)) else []
def cK4 (s : List UInt8) : Nat := if cDot s then cK3 s + 1 + (cPt s).length else cK3 s
def cGo (s : List UInt8) : Bool := !(cWh s == []) && (!(cDot s) || !(cPt s == []))
def cNP (s : List UInt8) : Bool := cGo s && cpN (cHx s) s (cK4 s)
def cDP (s : List UInt8) : List UInt8 := if cGo s then cpD (cHx s) s (cK4 s) else []
def cAt (s : List UInt8) : Nat := if cGo s then cpK (cHx s) s (cK4 s) else cK4 s
def cOk (s : List UInt8) : Bool := cGo s && cpO (cHx s) s (cK4 s)
theorem pre_len {s p : List UInt8} (h : Lib.hasPrefix s p = true) : p.length ≤ s.length := by
  unfold Lib.hasPrefix at h
  rw [List.isPrefixOf_iff_prefix] at h
  exact h.length_le
theorem cK1_le (s : List UInt8) : cK1 s ≤ s.length := by
  unfold cK1
  split
  · rename_i h
    have := pre_len h
    simpa using this
  · omega
theorem cK2_le (s : List UInt8) : cK2 s ≤ s.length := by
  have h1 := cK1_le s
  unfold cK2
  split
  · rename_i h
    have := pre_len h
    rw [List.length_drop] at this
    simp at this
    omega
  · omega
theorem cK3_le (s : List UInt8) : cK3 s ≤ s.length := (tw_cut _ s (cK2 s)).2 (cK2_le s)
theorem cDot_lt {s : List UInt8} (h : cDot s = true) : cK3 s + 1 ≤ s.length := by
  unfold cDot at h
  rw [Bool.and_eq_true] at h
  have := pre_len h.2
  rw [List.length_drop] at this
  simp at this
  have := cK3_le s
  omega
theorem cK4_le (s : List UInt8) : cK4 s ≤ s.length := by
  unfold cK4
  split
  · rename_i h
    have := (tw_cut (isX (cHx s)) s (cK3 s + 1)).2 (cDot_lt h)
    unfold cPt
    rw [if_pos h]
    exact this
  · exact cK3_le s
theorem pre_any (s p : List UInt8) (w : World) : Calls Tryd.prog 49 #[.string ⟨s.toArray⟩, .string ⟨p.toArray⟩] w fun e w' => e = .returned (.bool (Lib.hasPrefix s p)) ∧ w' = w := by
  have h := Tryd.strings_HasPrefix ⟨s.toArray⟩ ⟨p.toArray⟩ w
  rw [dt_mk, dt_mk] at h
  exact h
end Go.Proofs.YtpdjpjkieafnbaaDoor.Li
