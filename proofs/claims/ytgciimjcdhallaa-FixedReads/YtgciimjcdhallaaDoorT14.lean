import Derived.Test.YtgciimjcdhallaaDoorT12
import Derived.Test.YtgciimjcdhallaaDoorT5
set_option linter.unusedVariables false
set_option linter.unusedSimpArgs false
namespace Go.Proofs.YtgciimjcdhallaaDoor
open Go.RowKit Go.Shelf
set_option maxRecDepth 100000 in
set_option maxHeartbeats 2000000 in
theorem Read_long (s : List UInt8) (w : World) (hs : ¬ s.length ≤ 4096) (hm : s.length ≤ 9223372036854775807) :
    Calls Tryd.prog 4 #[.string ⟨s.toArray⟩] w fun e w' => e = .returned (.tuple #[.int .i64 0, .int .i64 4, .int .i64 0]) ∧ Keep w w' := by
  have s1 : (ByteArray.mk s.toArray).size = s.length := sz_mk s
  obtain ⟨L, hL⟩ : ∃ L, s.length = L := ⟨_, rfl⟩
  rw [hL] at s1 hs hm
  have hL1 : (4096 : Int) < (L : Int) := by omega
  go_enter Tryd.func4, Tryd.ntmps4
  go_wp2_with fail
  go_ret3
  exact ⟨rfl, Keep.refl w⟩
set_option maxRecDepth 100000 in
set_option maxHeartbeats 2000000 in
theorem Rounded_long (s : List UInt8) (w : World) (hs : ¬ s.length ≤ 4096) (hm : s.length ≤ 9223372036854775807) :
    Calls Tryd.prog 6 #[.string ⟨s.toArray⟩] w fun e w' => e = .returned (.tuple #[.int .i64 0, .int .i64 4, .int .i64 0]) ∧ Keep w w' := by
  have s1 : (ByteArray.mk s.toArray).size = s.length := sz_mk s
  obtain ⟨L, hL⟩ : ∃ L, s.length = L := ⟨_, rfl⟩
  rw [hL] at s1 hs hm
  have hL1 : (4096 : Int) < (L : Int) := by omega
  go_enter Tryd.func6, Tryd.ntmps6
  go_wp2_with fail
  go_ret3
  exact ⟨rfl, Keep.refl w⟩
/-- The parts of a decimal without a power: whether '-' stands ahead, where the digits begin, the digits, where they end. -/
def pNg (s : List UInt8) : Bool := tk s [45] 0
def pK1 (s : List UInt8) : Nat := if pNg s then 1 else 0
def pWh (s : List UInt8) : List UInt8 := dg s (pK1 s) s.length
def pK2 (s : List UInt8) : Nat := pK1 s + (pWh s).length
def pDot (s : List UInt8) : Bool := !(pWh s == []) && tk s [46] (pK2 s)
def pPt (most : Nat) (s : List UInt8) : List UInt8 := if pDot s then dg s (pK2 s + 1) most else []
def pK3 (most : Nat) (s : List UInt8) : Nat := if pDot s then pK2 s + 1 + (pPt most s).length else pK2 s
/-- Whether it could be read so far. -/
def pOk (most : Nat) (s : List UInt8) : Bool := !(pWh s == []) && (!(pDot s) || !(pPt most s == []))
theorem pWh_d (s : List UInt8) : allD (pWh s) := (allD.while _).take _
theorem pPt_d (most : Nat) (s : List UInt8) : allD (pPt most s) := by
  unfold pPt
  split
  · exact (allD.while _).take _
  · intro x hx; cases hx
theorem pK1_le (s : List UInt8) : pK1 s ≤ s.length := by
  unfold pK1
  split
  · rename_i h; have := of_decide_eq_true h; omega
  · omega
theorem pK2_le (s : List UInt8) : pK2 s ≤ s.length := by
  unfold pK2
  have h1 := dg_le s (pK1 s) s.length
  have h2 := pK1_le s
  unfold pWh
  omega
theorem pK3_le (most : Nat) (s : List UInt8) : pK3 most s ≤ s.length ∧ (pWh s).length + (pPt most s).length ≤ s.length := by
  have h2 := pK2_le s
  unfold pK3 pPt
  by_cases h : pDot s = true
  · simp only [h, if_true]
    have h1 := dg_le s (pK2 s + 1) most
    have h3 : pK2 s < s.length := by
      unfold pDot at h
      exact (of_decide_eq_true (Bool.and_eq_true_iff.1 h).2).1
    unfold pK2 at h1 h2 h3 ⊢
    omega
  · simp only [h]
    unfold pK2 at h2 ⊢
    simp
    omega
/-- decimal, whatever the text. -/
theorem decimal_any (s : List UInt8) (most : Nat) (hs : s.length ≤ 4096) (hm : most ≤ 4096) (wx : World) (b : Nat) (h : Rr wx b s 0) : Calls Tryd.prog 10 #[.pointer (some ⟨b, 0, none⟩), .int .i64 (most : Int)] wx fun e w' => e = .returned (.tuple #[.agg (dcl (pNg s) (pWh s) (pPt most s) 0), .bool (pOk most s)]) ∧ Rr w' b s (pK3 most s) ∧ wx.grownBy w' (some b) := by
  by_cases h0 : pWh s = []
  · have hd : pDot s = false := by unfold pDot; rw [h0]; rfl
    have e1 : pPt most s = [] := by unfold pPt; rw [hd]; rfl
    have e2 : pK3 most s = pK2 s := by unfold pK3; rw [hd]; rfl
    have e3 : pOk most s = false := by unfold pOk; rw [h0]; rfl
    rw [e1, e2, e3, h0]
    exact decimal_none ixC b most s wx hs hm h (pNg s) (pK1 s) (pK2 s) rfl rfl rfl h0
  · have h0b : (pWh s == []) = false := by simpa using h0
    by_cases hd : tk s [46] (pK2 s) = true
    · have hd2 : pDot s = true := by unfold pDot; rw [h0b, hd]; rfl
      have e1 : dg s (pK2 s + 1) most = pPt most s := by unfold pPt; rw [hd2]; rfl
      have e2 : pK2 s + 1 + (pPt most s).length = pK3 most s := by unfold pK3; rw [hd2]; rfl
      have e3 : (pPt most s == []) = !(pOk most s) := by unfold pOk; rw [h0b, hd2]; simp
      exact decimal_part ixC b most s wx hs hm h (pNg s) (pK1 s) (pK2 s) rfl rfl rfl (pWh s) (pPt most s) rfl h0 hd (pK3 most s) e1 e2 (pOk most s) e3
    · have hd1 : tk s [46] (pK2 s) = false := by simpa using hd
      have hd2 : pDot s = false := by unfold pDot; rw [h0b, hd1]; rfl
      have e1 : pPt most s = [] := by unfold pPt; rw [hd2]; rfl
      have e2 : pK3 most s = pK2 s := by unfold pK3; rw [hd2]; rfl
      have e3 : pOk most s = true := by unfold pOk; rw [h0b, hd2]; rfl
      rw [e1, e2, e3]
      exact decimal_whole ixC b most s wx hs hm h (pNg s) (pK1 s) (pK2 s) rfl rfl rfl (pWh s) rfl h0 hd1
/-- Read: what it answers. -/
def rN (s : List UInt8) : Nat := mv (nat (pWh s ++ pPt 6 s)) (0 - (pPt 6 s).length + 6)
def rGood (s : List UInt8) : Prop := pOk 6 s = true ∧ pK3 6 s = s.length
theorem Read_good (s : List UInt8) (w : World) (hs : s.length ≤ 4096) (hg : rGood s) :
    Calls Tryd.prog 4 #[.string ⟨s.toArray⟩] w fun e w' => e = .returned (.tuple #[.int .i64 (sgV (pNg s) (rN s)), .int .i64 (sgE (pNg s) (rN s)), .int .i64 0]) ∧ Keep w w' := by
  have hd := fun wx b h => decimal_any s 6 hs (by omega) wx b h
  rw [hg.1, hg.2] at hd
  have h3 := (pK3_le 6 s).2
  exact Read_of s w hs (pNg s) (pWh s) (pPt 6 s) true s.length _ _ _ hd (fun wx => told_ok (pNg s) (pWh s) (pPt 6 s) 0 wx s hs (by omega) (by omega) (pWh_d s) (pPt_d 6 s) (rN s) rfl)
theorem Read_bad (s : List UInt8) (w : World) (hs : s.length ≤ 4096) (hg : ¬ rGood s) :
    Calls Tryd.prog 4 #[.string ⟨s.toArray⟩] w fun e w' => e = .returned (.tuple #[.int .i64 0, .int .i64 40, .int .i64 (pK3 6 s : Int)]) ∧ Keep w w' := by
  have hd := fun wx b h => decimal_any s 6 hs (by omega) wx b h
  have h3 := (pK3_le 6 s).1
  have hb : pOk 6 s = false ∨ pK3 6 s < s.length := by
    unfold rGood at hg
    cases ho : pOk 6 s with
    | false => exact .inl rfl
    | true =>
      refine .inr ?_
      have : ¬ pK3 6 s = s.length := fun e => hg ⟨ho, e⟩
      omega
  exact Read_of s w hs (pNg s) (pWh s) (pPt 6 s) (pOk 6 s) (pK3 6 s) _ _ _ hd (fun wx => told_bad (pNg s) (pWh s) (pPt 6 s) 0 wx s (pK3 6 s) (pOk 6 s) hs h3 hb)
end Go.Proofs.YtgciimjcdhallaaDoor
set_option linter.unusedVariables false
set_option linter.unusedSimpArgs false
namespace Go.Proofs.YtgciimjcdhallaaDoor
open Go.RowKit Go.Shelf
/-- A power's parts, from k on. -/
def qE (s : List UInt8) (k : Nat) : Bool := tk s [101, 69] k
def qNg (s : List UInt8) (k : Nat) : Bool := tk s [45] (k + 1)
def qPl (s : List UInt8) (k : Nat) : Bool := tk s [43] (k + 1)
def qK2 (s : List UInt8) (k : Nat) : Nat := if qNg s k then k + 2 else if qPl s k then k + 1 + 1 else k + 1
def qDs (s : List UInt8) (k : Nat) : List UInt8 := dg s (qK2 s k) s.length
def qP (s : List UInt8) (k : Nat) : Int := if qE s k then (if qNg s k then -((min (nat (qDs s k)) far : Nat) : Int) else ((min (nat (qDs s k)) far : Nat) : Int)) else 0
def qOk (s : List UInt8) (k : Nat) : Bool := !(qE s k) || !(qDs s k == [])
def qK (s : List UInt8) (k : Nat) : Nat := if qE s k then qK2 s k + (qDs s k).length else k
theorem qP_in (s : List UInt8) (k : Nat) : -1048576 ≤ qP s k ∧ qP s k ≤ 1048576 := by
  have h : min (nat (qDs s k)) far ≤ 1048576 := Nat.min_le_right _ _
  unfold qP
  split
  · split <;> omega
  · omega
theorem qK_le (s : List UInt8) (k : Nat) (hk : k ≤ s.length) : qK s k ≤ s.length := by
  unfold qK
  by_cases h : qE s k = true
  · simp only [h, if_true]
    have h1 := dg_le s (qK2 s k) s.length
    have h2 := of_decide_eq_true h
    have h3 : qK2 s k ≤ s.length := by
      unfold qK2
      split
      · rename_i q; have := of_decide_eq_true q; omega
      · split
        · rename_i q; have := of_decide_eq_true q; omega
        · omega
    unfold qDs
    omega
  · simp only [h]
    simpa using hk
theorem power_any (s : List UInt8) (k : Nat) (hs : s.length ≤ 4096) (hk : k ≤ s.length) (w : World) (b : Nat) (h : Rr w b s k) :
    Calls Tryd.prog 14 #[.pointer (some ⟨b, 0, none⟩)] w fun e w' => e = .returned (.tuple #[.int .i64 (qP s k), .bool (qOk s k)]) ∧ Rr w' b s (qK s k) ∧ w.grownBy w' (some b) := by
  by_cases hE : qE s k = true
  · have hok : (qDs s k == []) = !(qOk s k) := by unfold qOk; rw [hE]; simp
    have e2 : qK s k = qK2 s k + (qDs s k).length := by unfold qK; rw [hE]; rfl
    by_cases hN : qNg s k = true
    · have e1 : qP s k = -((min (nat (qDs s k)) far : Nat) : Int) := by unfold qP; rw [hE, hN]; rfl
      have e3 : qK2 s k = k + 2 := by unfold qK2; rw [hN]; rfl
      rw [e1]
      refine power_minus ixC b k s w hs hk h hE hN (qDs s k) ?_ (qK s k) ?_ (qOk s k) hok
      · unfold qDs; rw [e3]
      · rw [e2, e3]
    · have hN2 : qNg s k = false := by simpa using hN
      have e1 : qP s k = ((min (nat (qDs s k)) far : Nat) : Int) := by unfold qP; rw [hE, hN2]; rfl
      have e3 : (if qPl s k = true then k + 1 + 1 else k + 1) = qK2 s k := by unfold qK2; rw [hN2]; rfl
      rw [e1]
      exact power_plus ixC b k s w hs hk h hE hN2 (qPl s k) rfl (qK2 s k) e3 (qDs s k) rfl (qK s k) e2.symm (qOk s k) hok
  · have hE2 : qE s k = false := by simpa using hE
    have e1 : qP s k = 0 := by unfold qP; rw [hE2]; rfl
    have e2 : qK s k = k := by unfold qK; rw [hE2]; rfl
    have e3 : qOk s k = true := by unfold qOk; rw [hE2]; rfl
    rw [e1, e2, e3]
    exact power_none ixC b k s w hs hk h hE2
/-- Rounded: what it answers. -/
def oPt (s : List UInt8) : List UInt8 := pPt s.length s
def oK (s : List UInt8) : Nat := pK3 s.length s
def oOk (s : List UInt8) : Bool := pOk s.length s && qOk s (oK s)
def oEnd (s : List UInt8) : Nat := if pOk s.length s then qK s (oK s) else oK s
def oN (s : List UInt8) : Nat := mv (nat (pWh s ++ oPt s)) (qP s (oK s) - (oPt s).length + 6)
def oGood (s : List UInt8) : Prop := oOk s = true ∧ oEnd s = s.length
theorem Rounded_good (s : List UInt8) (w : World) (hs : s.length ≤ 4096) (hg : oGood s) :
    Calls Tryd.prog 6 #[.string ⟨s.toArray⟩] w fun e w' => e = .returned (.tuple #[.int .i64 (sgV (pNg s) (oN s)), .int .i64 (sgE (pNg s) (oN s)), .int .i64 0]) ∧ Keep w w' := by
  obtain ⟨hg1, hg2⟩ := hg
  have hp := (Bool.and_eq_true_iff.1 hg1).1
  have hq := (Bool.and_eq_true_iff.1 hg1).2
  have hd := fun wx b h => decimal_any s s.length hs hs wx b h
  have hw := fun wx b h => power_any s (oK s) hs (pK3_le s.length s).1 wx b h
  rw [hp] at hd
  have e : qK s (oK s) = s.length := by unfold oEnd at hg2; rw [hp] at hg2; exact hg2
  rw [hq, e] at hw
  have h3 := (pK3_le s.length s).2
  exact Rounded_of s w hs (pNg s) (pWh s) (oPt s) (qP s (oK s)) true (oK s) s.length _ _ _ hd hw (fun wx => told_ok (pNg s) (pWh s) (oPt s) _ wx s hs (by unfold oPt; omega) (qP_in _ _) (pWh_d s) (pPt_d _ s) (oN s) rfl)
theorem Rounded_fault (s : List UInt8) (w : World) (hs : s.length ≤ 4096) (hg : ¬ oGood s) :
    Calls Tryd.prog 6 #[.string ⟨s.toArray⟩] w fun e w' => e = .returned (.tuple #[.int .i64 0, .int .i64 40, .int .i64 (oEnd s : Int)]) ∧ Keep w w' := by
  have hd := fun wx b h => decimal_any s s.length hs hs wx b h
  have hw := fun wx b h => power_any s (oK s) hs (pK3_le s.length s).1 wx b h
  cases hp : pOk s.length s with
  | false =>
    rw [hp] at hd
    have e : oEnd s = oK s := by unfold oEnd; rw [hp]; rfl
    rw [e]
    exact Rounded_bad s w hs (pNg s) (pWh s) (oPt s) (oK s) _ _ _ hd (fun wx => told_bad (pNg s) (pWh s) (oPt s) 0 wx s (oK s) false hs (pK3_le s.length s).1 (.inl rfl))
  | true =>
    rw [hp] at hd
    have e : oEnd s = qK s (oK s) := by unfold oEnd; rw [hp]; rfl
    rw [e]
    have hk := qK_le s (oK s) (pK3_le s.length s).1
    have hb : qOk s (oK s) = false ∨ qK s (oK s) < s.length := by
      cases hq : qOk s (oK s) with
      | false => exact .inl rfl
      | true =>
        refine .inr ?_
        have : ¬ oEnd s = s.length := fun e => hg ⟨by unfold oOk; rw [hp, hq]; rfl, e⟩
        omega
    exact Rounded_of s w hs (pNg s) (pWh s) (oPt s) (qP s (oK s)) (qOk s (oK s)) (oK s) (qK s (oK s)) _ _ _ hd hw (fun wx => told_bad (pNg s) (pWh s) (oPt s) _ wx s _ _ hs hk hb)
end Go.Proofs.YtgciimjcdhallaaDoor
