import Derived.Test.YtpdjpjkieafnbaaGreatDoorR6
import Derived.Deep.CutRange
set_option linter.unusedVariables false
set_option linter.unusedSimpArgs false
namespace Go.Proofs.YtpdjpjkieafnbaaGreatDoor.Li
open Go.RowKit Lb
theorem ixB (l : List UInt8) (c : UInt8) : (Lib.indexByte l c < 0) ↔ c ∉ l := by
  induction l with
  | nil => simp [Lib.indexByte]
  | cons b l ih =>
    have hge := Lib.indexByte_ge l c
    unfold Lib.indexByte
    by_cases h : b = c
    · subst h; simp
    · have hb : (b == c) = false := by simpa using h
      rw [hb]
      simp only [Bool.false_eq_true, if_false]
      by_cases h2 : Lib.indexByte l c = -1
      · rw [h2]
        have : c ∉ l := ih.1 (by omega)
        simp [this, Ne.symm h]
      · have h3 : (Lib.indexByte l c == -1) = false := by simpa using h2
        rw [h3]
        simp only [Bool.false_eq_true, if_false]
        have : c ∈ l := by
          refine Classical.byContradiction fun q => ?_
          have := ih.2 q
          omega
        simp [this]
        omega
theorem ixb_no (ts : List UInt8) (c : UInt8) (h : c ∉ ts) : Lib.indexByte ts c = -1 := by
  have h1 := (ixB ts c).2 h
  have h2 := Lib.indexByte_ge ts c
  omega
theorem ixb_yes (ts : List UInt8) (c : UInt8) (h : c ∈ ts) : ∃ x : Nat, Lib.indexByte ts c = (x : Int) := by
  have h1 : ¬ Lib.indexByte ts c < 0 := fun k => (ixB ts c).1 k h
  exact ⟨(Lib.indexByte ts c).toNat, by omega⟩
theorem u8_ne {a : UInt8} {n : Nat} (hn : n < 256) (h : a ≠ (n.toUInt8)) : a.toNat ≠ n := by
  intro e
  apply h
  rw [← e]
  simp
/-- What stands behind the digits. -/
theorem cutPower_any (ng hx : Bool) (wh pt : List UInt8) (s : List UInt8) (k : Nat) (w : World) (hs : s.length ≤ 4096) (hk : k ≤ s.length) :
    Calls Tryz.prog 135 #[.agg #[.bool ng, .bool hx, .string ⟨wh.toArray⟩, .string ⟨pt.toArray⟩, .bool false, .string ⟨#[]⟩], .string ⟨s.toArray⟩, .int .i64 (k : Int)] w fun e w' =>
      e = .returned (.tuple #[.agg #[.bool ng, .bool hx, .string ⟨wh.toArray⟩, .string ⟨pt.toArray⟩, .bool (cpN hx s k), .string ⟨(cpD hx s k).toArray⟩], .int .i64 (cpK hx s k : Nat), .bool (cpO hx s k)]) ∧ Keep w w' := by
  by_cases hE : cpE hx s k = true
  · have h0 := of_decide_eq_true hE
    have hlt := h0.1
    by_cases hS : cpS s k = true
    · have h1 := of_decide_eq_true hS
      have hlt1 := h1.1
      have hJ : cpJ s k = k + 2 := by unfold cpJ; rw [if_pos hS]
      have hDs : (s.drop (k + 2)).takeWhile isD = cpD hx s k := by unfold cpD; rw [if_pos hE, hJ]
      have hK : cpK hx s k = k + 2 + (cpD hx s k).length := by unfold cpK; rw [if_pos hE, hJ]
      have hO : (decide (0 < (cpD hx s k).length) && decide (k + 2 + (cpD hx s k).length = s.length)) = cpO hx s k := by unfold cpO; rw [if_pos hE, hK]
      rw [hK]
      by_cases hm : (s.getD (k + 1) 0) = 45
      · have hN : cpN hx s k = true := by
          unfold cpN
          rw [hE, Bool.true_and]
          exact decide_eq_true ⟨hlt1, by rw [hm]; simp⟩
        rw [hN]
        have hm' : (s.getD (k + 1) 0).toNat = 45 := by rw [hm]; rfl
        cases hx
        · obtain ⟨x, hi⟩ := ixb_yes [101, 69] (s.getD k 0) h0.2
          exact cp_yes_false_m ng wh pt s k w hs hlt x hi hlt1 hm' _ hDs _ hO
        · obtain ⟨x, hi⟩ := ixb_yes [112] (s.getD k 0) h0.2
          exact cp_yes_true_m ng wh pt s k w hs hlt x hi hlt1 hm' _ hDs _ hO
      · have hN : cpN hx s k = false := by
          unfold cpN
          rw [hE, Bool.true_and]
          exact decide_eq_false (fun c => hm (by simpa using c.2))
        rw [hN]
        have hm' : (s.getD (k + 1) 0).toNat = 43 := by
          have := h1.2
          simp only [List.mem_cons, List.not_mem_nil, or_false] at this
          rcases this with c | c
          · rw [c]; rfl
          · exact absurd c hm
        cases hx
        · obtain ⟨x, hi⟩ := ixb_yes [101, 69] (s.getD k 0) h0.2
          exact cp_yes_false_p ng wh pt s k w hs hlt x hi hlt1 hm' _ hDs _ hO
        · obtain ⟨x, hi⟩ := ixb_yes [112] (s.getD k 0) h0.2
          exact cp_yes_true_p ng wh pt s k w hs hlt x hi hlt1 hm' _ hDs _ hO
    · have hJ : cpJ s k = k + 1 := by unfold cpJ; rw [if_neg hS]
      have hDs : (s.drop (k + 1)).takeWhile isD = cpD hx s k := by unfold cpD; rw [if_pos hE, hJ]
      have hK : cpK hx s k = k + 1 + (cpD hx s k).length := by unfold cpK; rw [if_pos hE, hJ]
      have hO : (decide (0 < (cpD hx s k).length) && decide (k + 1 + (cpD hx s k).length = s.length)) = cpO hx s k := by unfold cpO; rw [if_pos hE, hK]
      have hS' : ¬ (k + 1 < s.length ∧ s.getD (k + 1) 0 ∈ [43, 45]) := fun c => hS (decide_eq_true c)
      have hN : cpN hx s k = false := by
        unfold cpN
        rw [hE, Bool.true_and]
        exact decide_eq_false (fun c => hS' ⟨c.1, by simp only [List.mem_cons, List.not_mem_nil, or_false] at *; exact .inr c.2⟩)
      rw [hK, hN]
      by_cases he : k + 1 = s.length
      · cases hx
        · obtain ⟨x, hi⟩ := ixb_yes [101, 69] (s.getD k 0) h0.2
          exact cp_yes_false_e ng wh pt s k w hs hlt x hi he _ hDs _ hO
        · obtain ⟨x, hi⟩ := ixb_yes [112] (s.getD k 0) h0.2
          exact cp_yes_true_e ng wh pt s k w hs hlt x hi he _ hDs _ hO
      · have hlt1 : k + 1 < s.length := by omega
        have n1 : (s.getD (k + 1) 0).toNat ≠ 43 := u8_ne (by omega) (fun c => hS' ⟨hlt1, by rw [c]; decide⟩)
        have n2 : (s.getD (k + 1) 0).toNat ≠ 45 := u8_ne (by omega) (fun c => hS' ⟨hlt1, by rw [c]; decide⟩)
        cases hx
        · obtain ⟨x, hi⟩ := ixb_yes [101, 69] (s.getD k 0) h0.2
          exact cp_yes_false_n ng wh pt s k w hs hlt x hi hlt1 n1 n2 _ hDs _ hO
        · obtain ⟨x, hi⟩ := ixb_yes [112] (s.getD k 0) h0.2
          exact cp_yes_true_n ng wh pt s k w hs hlt x hi hlt1 n1 n2 _ hDs _ hO
  · have hE' : ¬ (k < s.length ∧ s.getD k 0 ∈ mkE hx) := fun c => hE (decide_eq_true c)
    have hD : cpD hx s k = [] := by unfold cpD; rw [if_neg hE]
    have hK : cpK hx s k = k := by unfold cpK; rw [if_neg hE]
    have hN : cpN hx s k = false := by unfold cpN; simp [hE]
    have hO : cpO hx s k = (decide (k = s.length) && !hx) := by unfold cpO; rw [if_neg hE]
    rw [hD, hK, hN, hO]
    by_cases he : k = s.length
    · rw [decide_eq_true he]
      cases hx
      · exact cp_no_false_a ng wh pt s k w he
      · exact cp_no_true_a ng wh pt s k w he
    · rw [decide_eq_false he]
      have hlt : k < s.length := by omega
      cases hx
      · exact cp_no_false_b ng wh pt s k w hlt (ixb_no _ _ (fun c => hE' ⟨hlt, c⟩))
      · exact cp_no_true_b ng wh pt s k w hlt (ixb_no _ _ (fun c => hE' ⟨hlt, c⟩))
end Go.Proofs.YtpdjpjkieafnbaaGreatDoor.Li
set_option linter.unusedVariables false
set_option linter.unusedSimpArgs false
namespace Go.Proofs.YtpdjpjkieafnbaaGreatDoor.Li
open Go.RowKit Lb
/-- A number's text, cut: its sign, is it hexadecimal, its digits ahead of the point and behind it. -/
def cNg (s : List UInt8) : Bool := Lib.hasPrefix s [45]
def cK1 (s : List UInt8) : Nat := if cNg s then 1 else 0
def cHx (s : List UInt8) : Bool := Lib.hasPrefix (s.drop (cK1 s)) [48, 120]
def cK2 (s : List UInt8) : Nat := cK1 s + if cHx s then 2 else 0
def cWh (s : List UInt8) : List UInt8 := (s.drop (cK2 s)).takeWhile (isX (cHx s))
def cK3 (s : List UInt8) : Nat := cK2 s + (cWh s).length
def cDot (s : List UInt8) : Bool := !(cWh s == []) && Lib.hasPrefix (s.drop (cK3 s)) [46]
def cPt (s : List UInt8) : List UInt8 := if cDot s then (s.drop (cK3 s + 1)).takeWhile (isX (cHx s)) else []
def cK4 (s : List UInt8) : Nat := if cDot s then cK3 s + 1 + (cPt s).length else cK3 s
def cGo (s : List UInt8) : Bool := !(cWh s == []) && (!(cDot s) || !(cPt s == []))
def cNP (s : List UInt8) : Bool := cGo s && cpN (cHx s) s (cK4 s)
def cDP (s : List UInt8) : List UInt8 := if cGo s then cpD (cHx s) s (cK4 s) else []
def cAt (s : List UInt8) : Nat := if cGo s then cpK (cHx s) s (cK4 s) else cK4 s
def cOk (s : List UInt8) : Bool := cGo s && cpO (cHx s) s (cK4 s)
theorem pre_len {s p : List UInt8} (h : Lib.hasPrefix s p = true) : p.length ≤ s.length := by
  unfold Lib.hasPrefix at h
  rw [List.isPrefixOf_iff_prefix] at h
  exact h.length_le
theorem cK1_le (s : List UInt8) : cK1 s ≤ s.length := by
  unfold cK1
  split
  · rename_i h
    have := pre_len h
    simpa using this
  · omega
theorem cK2_le (s : List UInt8) : cK2 s ≤ s.length := by
  have h1 := cK1_le s
  unfold cK2
  split
  · rename_i h
    have := pre_len h
    rw [List.length_drop] at this
    simp at this
    omega
  · omega
theorem cK3_le (s : List UInt8) : cK3 s ≤ s.length := (tw_cut _ s (cK2 s)).2 (cK2_le s)
theorem cDot_lt {s : List UInt8} (h : cDot s = true) : cK3 s + 1 ≤ s.length := by
  unfold cDot at h
  rw [Bool.and_eq_true] at h
  have := pre_len h.2
  rw [List.length_drop] at this
  simp at this
  have := cK3_le s
  omega
theorem cK4_le (s : List UInt8) : cK4 s ≤ s.length := by
  unfold cK4
  split
  · rename_i h
    have := (tw_cut (isX (cHx s)) s (cK3 s + 1)).2 (cDot_lt h)
    unfold cPt
    rw [if_pos h]
    exact this
  · exact cK3_le s
theorem pre_any (s p : List UInt8) (w : World) : Calls Tryz.prog 133 #[.string ⟨s.toArray⟩, .string ⟨p.toArray⟩] w fun e w' => e = .returned (.bool (Lib.hasPrefix s p)) ∧ w' = w := by
  have h := Tryz.strings_HasPrefix ⟨s.toArray⟩ ⟨p.toArray⟩ w
  rw [dt_mk, dt_mk] at h
  exact h
end Go.Proofs.YtpdjpjkieafnbaaGreatDoor.Li
set_option linter.unusedVariables false
set_option linter.unusedSimpArgs false
namespace Go.Proofs.YtpdjpjkieafnbaaGreatDoor.Li
open Go.RowKit Lb
theorem way_A {s : List UInt8} (h : (cWh s).length = 0) : cPt s = [] ∧ cNP s = false ∧ cDP s = [] ∧ cAt s = cK3 s ∧ cOk s = false := by
  have h0 : cWh s = [] := List.eq_nil_of_length_eq_zero h
  have hd : cDot s = false := by unfold cDot; rw [h0]; rfl
  have hg : cGo s = false := by unfold cGo; rw [h0]; rfl
  refine ⟨?_, ?_, ?_, ?_, ?_⟩
  · unfold cPt; rw [hd]; rfl
  · unfold cNP; rw [hg]; rfl
  · unfold cDP; rw [hg]; rfl
  · unfold cAt; rw [hg]; unfold cK4; rw [hd]; rfl
  · unfold cOk; rw [hg]; rfl
theorem way_go {s : List UInt8} (h : cGo s = true) : cNP s = cpN (cHx s) s (cK4 s) ∧ cDP s = cpD (cHx s) s (cK4 s) ∧ cAt s = cpK (cHx s) s (cK4 s) ∧ cOk s = cpO (cHx s) s (cK4 s) := by
  refine ⟨?_, ?_, ?_, ?_⟩
  · unfold cNP; rw [h]; rfl
  · unfold cDP; rw [h]; rfl
  · unfold cAt; rw [h]; rfl
  · unfold cOk; rw [h]; rfl
theorem way_C {s : List UInt8} (h : (cWh s).length ≠ 0) (hd : Lib.hasPrefix (s.drop (cK3 s)) [46] = false) : cPt s = [] ∧ cK4 s = cK3 s ∧ cGo s = true := by
  have h0 : (cWh s == []) = false := by
    rw [beq_eq_false_iff_ne]
    intro e
    rw [e] at h
    exact h rfl
  have hd' : cDot s = false := by unfold cDot; rw [hd, Bool.and_false]
  refine ⟨?_, ?_, ?_⟩
  · unfold cPt; rw [hd']; rfl
  · unfold cK4; rw [hd']; rfl
  · unfold cGo; rw [h0, hd']; rfl
theorem way_dot {s : List UInt8} (h : (cWh s).length ≠ 0) (hd : Lib.hasPrefix (s.drop (cK3 s)) [46] = true) : cDot s = true ∧ cPt s = (s.drop (cK3 s + 1)).takeWhile (isX (cHx s)) ∧ cK4 s = cK3 s + 1 + (cPt s).length ∧ cGo s = !(cPt s == []) := by
  have h0 : (cWh s == []) = false := by
    rw [beq_eq_false_iff_ne]
    intro e
    rw [e] at h
    exact h rfl
  have hd' : cDot s = true := by unfold cDot; rw [hd, h0]; rfl
  refine ⟨hd', ?_, ?_, ?_⟩
  · unfold cPt; rw [hd']; rfl
  · unfold cK4; rw [hd']; rfl
  · unfold cGo; rw [h0, hd']; rfl
theorem way_B {s : List UInt8} (h : cGo s = false) : cNP s = false ∧ cDP s = [] ∧ cAt s = cK4 s ∧ cOk s = false := by
  refine ⟨?_, ?_, ?_, ?_⟩
  · unfold cNP; rw [h]; rfl
  · unfold cDP; rw [h]; rfl
  · unfold cAt; rw [h]; rfl
  · unfold cOk; rw [h]; rfl
theorem Keep.a3 (w : World) (a b c : Obj) : Keep w ((((w.alloc a).alloc b).alloc c).drew) := ((((Keep.refl w).alloc a).alloc b).alloc c).drew
theorem Sp.a3 (w : World) (b c : Obj) (v : Array Value) : Sp ((((w.alloc (.cells v 129)).alloc b).alloc c).drew) w.heap.size v :=
  ((Sp.new w v).keep (((Keep.refl _).alloc b).alloc c)).drew
theorem Keep.a4 (w : World) (a b c d : Obj) : Keep w (((((w.alloc a).alloc b).alloc c).drew.alloc d).drew) := (((((Keep.refl w).alloc a).alloc b).alloc c).drew.alloc d).drew
theorem Sp.a4 (w : World) (b c d : Obj) (v : Array Value) : Sp (((((w.alloc (.cells v 129)).alloc b).alloc c).drew.alloc d).drew) w.heap.size v :=
  (((Sp.new w v).keep (((((Keep.refl _).alloc b).alloc c).drew).alloc d))).drew
abbrev zSp : Obj := .cells #[.bool false, .bool false, .string ⟨#[]⟩, .string ⟨#[]⟩, .bool false, .string ⟨#[]⟩] 129
set_option maxRecDepth 100000 in
set_option maxHeartbeats 2000000 in
theorem cut_any (s : List UInt8) (w : World) (hs : s.length ≤ 4096) :
    Calls Tryz.prog 88 #[.string ⟨s.toArray⟩] w fun e w' =>
      e = .returned (.tuple #[.agg #[.bool (cNg s), .bool (cHx s), .string ⟨(cWh s).toArray⟩, .string ⟨(cPt s).toArray⟩, .bool (cNP s), .string ⟨(cDP s).toArray⟩], .int .i64 (cAt s : Nat), .bool (cOk s)]) ∧ Keep w w' := by
  have hP1 := fun wx => pre_any s [45] wx
  have hP2 := fun wx => pre_any (s.drop (cK1 s)) [48, 120] wx
  have hf1 := fun wx => run_from s (cK1 s) (cK1_le s) wx
  have hf2 := fun wx => run_from s (cK2 s) (cK2_le s) wx
  have l1 := cK1_le s
  have l2 := cK2_le s
  have l3 := cK3_le s
  have H1 : Hid (cK1 s = if cNg s then 1 else 0) := rfl
  have H2 : Hid (cK2 s = cK1 s + if cHx s then 2 else 0) := rfl
  rw [show Lib.hasPrefix s [45] = cNg s from rfl] at hP1
  rw [show Lib.hasPrefix (s.drop (cK1 s)) [48, 120] = cHx s from rfl] at hP2
  obtain ⟨ng, hng⟩ : ∃ ng, cNg s = ng := ⟨_, rfl⟩
  obtain ⟨hx, hhx⟩ : ∃ hx, cHx s = hx := ⟨_, rfl⟩
  obtain ⟨K1, hK1⟩ : ∃ K1, cK1 s = K1 := ⟨_, rfl⟩
  obtain ⟨K2, hK2⟩ : ∃ K2, cK2 s = K2 := ⟨_, rfl⟩
  rw [hng] at hP1
  rw [hhx] at hP2
  rw [hK1] at hP2 hf1
  rw [hK2] at hf2
  rw [hK1, hng] at H1
  rw [hK2, hK1, hhx] at H2
  have HN : Hid (cNg s = ng) := hng
  have HX : Hid (cHx s = hx) := hhx
  have HK2 : Hid (cK2 s = K2) := hK2
  have b1 : K1 ≤ 4096 := by omega
  have b2 : K2 ≤ 4096 := by omega
  clear hng hhx hK1 hK2 l1 l2
  have t1 : True := trivial
  go_enter Tryz.func88, Tryz.ntmps88
  go_upto_if 12 with (go_at_call 133; clear t1; refine (hP1 _).mono ?_; rintro e wz ⟨rfl, hz⟩; rw [hz]; clear hz)
  go_cut [6] from 13 to 14 (fun s6 wx => s6 = .int .i64 (K1 : Int) ∧ wx = (w.alloc zSp).alloc (.cells #[.bool ng, .bool false, .string ⟨#[]⟩, .string ⟨#[]⟩, .bool false, .string ⟨#[]⟩] 129))
  case first =>
    cases ng
    · go_wp2_with fail
      go_meet
      case rel => exact ⟨by rw [H1.out]; rfl, rfl⟩
    · go_wp2_with fail
      go_meet
      case rel => exact ⟨by rw [H1.out]; rfl, rfl⟩
  case rest =>
    obtain ⟨rfl, rfl⟩ := hcut
    clear hP1
    go_upto_if 21 with (go_at_call 133; refine (hP2 _).mono ?_; rintro e wz ⟨rfl, hz⟩; rw [hz]; clear hz)
    go_cut [6] from 22 to 23 (fun s6 wx => s6 = .int .i64 (K2 : Int) ∧ wx = (w.alloc zSp).alloc (.cells #[.bool ng, .bool hx, .string ⟨#[]⟩, .string ⟨#[]⟩, .bool false, .string ⟨#[]⟩] 129))
    case first =>
      cases hx
      · go_wp2_with fail
        go_meet
        case rel => exact ⟨by rw [H2.out]; rfl, rfl⟩
      · go_wp2_with fail
        go_meet
        case rel => exact ⟨by rw [H2.out]; rfl, rfl⟩
    case rest =>
      obtain ⟨rfl, rfl⟩ := hcut
      clear hP2 hf1
      have hD1 := fun wx => digitRun_any (s.drop K2) hx wx (by rw [List.length_drop]; omega)
      have e1 : (s.drop K2).takeWhile (isX hx) = cWh s := by unfold cWh; rw [HX.out, HK2.out]
      obtain ⟨u1, u2⟩ := tw_cut (isX hx) s K2
      rw [e1] at hD1 u1 u2
      have u3 := u2 (by rw [← HK2.out]; exact cK2_le s)
      have hK3 : cK3 s = K2 + (cWh s).length := by unfold cK3; rw [HK2.out]
      have hct1 : ∀ wx, (Instr.slice 9 (.string ⟨s.toArray⟩) (some (.int .i64 (K2 : Int))) (some (.int .i64 ((K2 : Int) + ((cWh s).length : Int)))) none).run Tryz.prog wx = .ok (.string ⟨(cWh s).toArray⟩) wx := fun wx => by
        have := run_cut s K2 (K2 + (cWh s).length) (by omega) u3 wx
        rw [u1, show (((K2 + (cWh s).length : Nat)) : Int) = (K2 : Int) + ((cWh s).length : Int) by omega] at this
        exact this
      obtain ⟨sd, hsd⟩ : ∃ sd, s.drop K2 = sd := ⟨_, rfl⟩
      rw [hsd] at hD1 hf2
      obtain ⟨wh, hwh⟩ : ∃ wh, cWh s = wh := ⟨_, rfl⟩
      obtain ⟨n1, hn1⟩ : ∃ n1, (cWh s).length = n1 := ⟨_, rfl⟩
      rw [hn1] at hD1 hct1 hK3 u3
      rw [hwh] at hct1
      have HW : Hid (cWh s = wh) := hwh
      have HL1 : Hid ((cWh s).length = n1) := hn1
      have HK3 : Hid (cK3 s = K2 + n1) := hK3
      have b3 : K2 + n1 ≤ 4096 := by omega
      clear e1 u1 u2 hsd hwh hn1 hK3 l3
      go_upto_region 8 with fail
      go_region_with (go_at_call 134; refine (hD1 _).mono ?_; rintro e w2 ⟨rfl, p1, rfl⟩)
      go_simp
      by_cases z1 : n1 = 0
      · have y1 : ((n1 : Int) == 0) = true := by rw [z1]; rfl
        have Hz : Hid (n1 = 0) := z1
        clear z1
        go_wp2_with fail
        obtain ⟨a1, a2, a3, a4, a5⟩ := way_A (s := s) (by rw [HL1.out]; exact Hz.out)
        exact bodyPost_ret (results_sp rfl _ _ w.heap.size _ _ _ _ _ _ rfl (Sp.a3 w _ _ _)) rfl ⟨by rw [HN.out, HX.out, HW.out, a1, a2, a3, a4, a5, HK3.out]; rfl, Keep.a3 w _ _ _⟩
      · have y1 : ((n1 : Int) == 0) = false := by rw [beq_eq_false_iff_ne]; omega
        have Hz : Hid ((cWh s).length ≠ 0) := by unfold Hid; rw [HL1.out]; exact z1
        clear z1
        have hf3 : ∀ wx, (Instr.slice 9 (.string ⟨s.toArray⟩) (some (.int .i64 ((K2 : Int) + (n1 : Int)))) none none).run Tryz.prog wx = .ok (.string ⟨(s.drop (K2 + n1)).toArray⟩) wx := fun wx => run_from s (K2 + n1) u3 wx
        have hP3 := fun wx => pre_any (s.drop (K2 + n1)) [46] wx
        obtain ⟨d, hd⟩ : ∃ d, Lib.hasPrefix (s.drop (K2 + n1)) [46] = d := ⟨_, rfl⟩
        rw [hd] at hP3
        cases d
        · obtain ⟨a1, a2, a3⟩ := way_C Hz.out (by rw [HK3.out]; exact hd)
          obtain ⟨q1, q2, q3, q4⟩ := way_go a3
          rw [a2, HK3.out, HX.out] at q1 q2 q3 q4
          have hC : ∀ wx, Calls Tryz.prog 135 #[.agg #[.bool ng, .bool hx, .string ⟨wh.toArray⟩, .string ⟨#[]⟩, .bool false, .string ⟨#[]⟩], .string ⟨s.toArray⟩, .int .i64 ((K2 : Int) + (n1 : Int))] wx fun e w' =>
              e = .returned (.tuple #[.agg #[.bool ng, .bool hx, .string ⟨wh.toArray⟩, .string ⟨#[]⟩, .bool (cNP s), .string ⟨(cDP s).toArray⟩], .int .i64 (cAt s : Nat), .bool (cOk s)]) ∧ Keep wx w' := fun wx => by
            rw [q1, q2, q3, q4]
            exact cutPower_any ng hx wh [] s (K2 + n1) wx hs u3
          have A1 : Hid (cPt s = []) := a1
          clear a1 a2 a3 q1 q2 q3 q4 hd hD1
          go_wp2_with (go_at_call 133; refine (hP3 _).mono ?_; rintro e wz ⟨rfl, hz⟩; rw [hz]; clear hz)
          refine (hC _).mono ?_
          rintro e w5 ⟨rfl, k5⟩
          have B5 := (((Sp.new w #[.bool false, .bool false, .string ⟨#[]⟩, .string ⟨#[]⟩, .bool false, .string ⟨#[]⟩]).keep ((Keep.refl _).alloc _)).keep ((Keep.refl _).alloc _)).drew.keep k5
          have K5 := (Keep.a3 w _ _ _).trans k5
          obtain ⟨f0, f1, f2, f3, f4, f5⟩ := B5.frs
          obtain ⟨d0, d1, d2, d3, d4, d5⟩ := B5.six
          have HB5 : Hid (Sp w5 w.heap.size #[.bool false, .bool false, .string ⟨#[]⟩, .string ⟨#[]⟩, .bool false, .string ⟨#[]⟩]) := B5
          have HK5 : Hid (Keep w w5) := K5
          clear B5 K5 k5 hC hP3
          go_wp2_with fail
          exact bodyPost_ret (results_sp rfl _ _ w.heap.size _ _ _ _ _ _ rfl (HB5.out.all6 _ _ _ _ _ _)) rfl ⟨by rw [HN.out, HX.out, HW.out, A1.out]; rfl, HK5.out.all6 (Nat.le_refl _) _ _ _ _ _ _⟩
        · obtain ⟨a1, a2, a3, a4⟩ := way_dot Hz.out (by rw [HK3.out]; exact hd)
          have l4 : K2 + n1 + 1 ≤ s.length := by rw [← HK3.out]; exact cDot_lt a1
          rw [HK3.out, HX.out] at a2
          rw [HK3.out] at a3
          have hf4 : ∀ wx, (Instr.slice 9 (.string ⟨s.toArray⟩) (some (.int .i64 ((K2 : Int) + (n1 : Int) + 1))) none none).run Tryz.prog wx = .ok (.string ⟨(s.drop (K2 + n1 + 1)).toArray⟩) wx := fun wx => run_from s (K2 + n1 + 1) l4 wx
          have hD2 := fun wx => digitRun_any (s.drop (K2 + n1 + 1)) hx wx (by rw [List.length_drop]; omega)
          rw [← a2] at hD2
          obtain ⟨v1, v2⟩ := tw_cut (isX hx) s (K2 + n1 + 1)
          rw [← a2] at v1 v2
          have v3 := v2 l4
          have hct2 : ∀ wx, (Instr.slice 9 (.string ⟨s.toArray⟩) (some (.int .i64 ((K2 : Int) + (n1 : Int) + 1))) (some (.int .i64 ((K2 : Int) + (n1 : Int) + 1 + ((cPt s).length : Int)))) none).run Tryz.prog wx = .ok (.string ⟨(cPt s).toArray⟩) wx := fun wx => by
            have := run_cut s (K2 + n1 + 1) (K2 + n1 + 1 + (cPt s).length) (by omega) v3 wx
            rw [v1] at this
            exact this
          obtain ⟨sd2, hsd2⟩ : ∃ sd2, s.drop (K2 + n1 + 1) = sd2 := ⟨_, rfl⟩
          rw [hsd2] at hD2 hf4
          obtain ⟨n2, hn2⟩ : ∃ n2, (cPt s).length = n2 := ⟨_, rfl⟩
          obtain ⟨pt, hpt⟩ : ∃ pt, cPt s = pt := ⟨_, rfl⟩
          rw [hn2] at hD2 hct2 v3 a3
          rw [hpt] at hct2
          have b4 : K2 + n1 + 1 + n2 ≤ 4096 := by omega
          have HP : Hid (cPt s = pt) := hpt
          have HL2 : Hid ((cPt s).length = n2) := hn2
          have HK4 : Hid (cK4 s = K2 + n1 + 1 + n2) := a3
          have HG : Hid (cGo s = !(cPt s == [])) := a4
          have Hsd : Hid (s.drop (K2 + n1) = s.drop (K2 + n1)) := rfl
          clear a1 a2 a3 a4 v1 v2 hsd2 hn2 hpt hd hD1
          generalize s.drop (K2 + n1) = sd1 at hf3 hP3
          go_upto_region 14 with (go_at_call 133; refine (hP3 _).mono ?_; rintro e wz ⟨rfl, hz⟩; rw [hz]; clear hz)
          go_region_with (go_at_call 134; refine (hD2 _).mono ?_; rintro e w4 ⟨rfl, p2, rfl⟩)
          go_simp
          by_cases z2 : n2 = 0
          · have y2 : ((n2 : Int) == 0) = true := by rw [z2]; rfl
            have hg : cGo s = false := by
              rw [HG.out, List.eq_nil_of_length_eq_zero (HL2.out.trans z2)]; rfl
            obtain ⟨q1, q2, q3, q4⟩ := way_B hg
            rw [HK4.out] at q3
            have Q1 : Hid (cNP s = false ∧ cDP s = [] ∧ cAt s = K2 + n1 + 1 + n2 ∧ cOk s = false) := ⟨q1, q2, q3, q4⟩
            clear z2 q1 q2 q3 q4 hg
            go_wp2_with fail
            exact bodyPost_ret (results_sp rfl _ _ w.heap.size _ _ _ _ _ _ rfl (Sp.a4 w _ _ _ _)) rfl ⟨by rw [HN.out, HX.out, HW.out, HP.out, Q1.out.1, Q1.out.2.1, Q1.out.2.2.1, Q1.out.2.2.2]; rfl, Keep.a4 w _ _ _ _⟩
          · have y2 : ((n2 : Int) == 0) = false := by rw [beq_eq_false_iff_ne]; omega
            have hg : cGo s = true := by
              rw [HG.out]
              have : (cPt s == []) = false := by
                rw [beq_eq_false_iff_ne]
                intro e
                have := HL2.out
                rw [e] at this
                exact z2 this.symm
              rw [this]; rfl
            obtain ⟨q1, q2, q3, q4⟩ := way_go hg
            rw [HK4.out, HX.out] at q1 q2 q3 q4
            have hC : ∀ wx, Calls Tryz.prog 135 #[.agg #[.bool ng, .bool hx, .string ⟨wh.toArray⟩, .string ⟨pt.toArray⟩, .bool false, .string ⟨#[]⟩], .string ⟨s.toArray⟩, .int .i64 ((K2 : Int) + (n1 : Int) + 1 + (n2 : Int))] wx fun e w' =>
                e = .returned (.tuple #[.agg #[.bool ng, .bool hx, .string ⟨wh.toArray⟩, .string ⟨pt.toArray⟩, .bool (cNP s), .string ⟨(cDP s).toArray⟩], .int .i64 (cAt s : Nat), .bool (cOk s)]) ∧ Keep wx w' := fun wx => by
              rw [q1, q2, q3, q4]
              exact cutPower_any ng hx wh pt s (K2 + n1 + 1 + n2) wx hs v3
            clear z2 q1 q2 q3 q4 hg
            go_wp2_with fail
            refine (hC _).mono ?_
            rintro e w5 ⟨rfl, k5⟩
            have B5 := (((((Sp.new w #[.bool false, .bool false, .string ⟨#[]⟩, .string ⟨#[]⟩, .bool false, .string ⟨#[]⟩]).keep ((Keep.refl _).alloc _)).keep ((Keep.refl _).alloc _)).drew.keep ((Keep.refl _).alloc _)).drew).keep k5
            have K5 := (Keep.a4 w _ _ _ _).trans k5
            obtain ⟨f0, f1, f2, f3, f4, f5⟩ := B5.frs
            obtain ⟨d0, d1, d2, d3, d4, d5⟩ := B5.six
            have HB5 : Hid (Sp w5 w.heap.size #[.bool false, .bool false, .string ⟨#[]⟩, .string ⟨#[]⟩, .bool false, .string ⟨#[]⟩]) := B5
            have HK5 : Hid (Keep w w5) := K5
            clear B5 K5 k5 hC hP3
            go_wp2_with fail
            exact bodyPost_ret (results_sp rfl _ _ w.heap.size _ _ _ _ _ _ rfl (HB5.out.all6 _ _ _ _ _ _)) rfl ⟨by rw [HN.out, HX.out, HW.out, HP.out]; rfl, HK5.out.all6 (Nat.le_refl _) _ _ _ _ _ _⟩
end Go.Proofs.YtpdjpjkieafnbaaGreatDoor.Li
set_option linter.unusedVariables false
set_option linter.unusedSimpArgs false
namespace Go.Proofs.YtpdjpjkieafnbaaGreatDoor.Li
open Go.RowKit Lb
def far : Nat := 1048576
theorem cap_step (l : List UInt8) (i : Nat) (h : i < l.length) (n : Nat) (hn : n = min (nat (l.take i)) far) (d : Nat) (hd : d = dv (l.getD i 0)) : min (n * 10 + d) far = min (nat (l.take (i + 1))) far := by
  have e : l.take (i + 1) = l.take i ++ [l.getD i 0] := by
    rw [List.take_add_one]; simp [List.getD, List.getElem?_eq_getElem h]
  rw [e, nat_append]
  have e2 : nat [l.getD i 0] = d := by rw [nat_cons, hd]; simp [nat]
  rw [e2, hn]
  unfold far
  simp only [List.length_singleton, Nat.pow_one]
  omega
theorem gd_bounds {l : List UInt8} (h : allD l) {i : Nat} (hi : i < l.length) : 48 ≤ (l.getD i 0).toNat ∧ (l.getD i 0).toNat ≤ 57 := by
  have : l.getD i 0 ∈ l := by simp [List.getD, List.getElem?_eq_getElem hi]
  have := h _ this
  unfold isD at this
  exact of_decide_eq_true this
theorem next_at {l : List UInt8} (h : allD l) {i : Nat} (hi : i < l.length) (w : World) (ty : TypeId) : (Instr.next (.pointer (some ⟨w.heap.size, 0, none⟩)) true ty).run Tryz.prog (w.iter ⟨l.toArray⟩ i) = .ok (.tuple #[.bool true, .int .i64 i, .int .i32 ((l.getD i 0).toNat : Int)]) (w.iter ⟨l.toArray⟩ (i + 1)) := by
  have hs : i < (ByteArray.mk l.toArray).size := by rw [sz_mk]; exact hi
  have e : (ByteArray.mk l.toArray)[i]'hs = l.getD i 0 := by
    have : l.getD i 0 = l[i] := by simp [List.getD, List.getElem?_eq_getElem hi]
    rw [this]
    rfl
  have hb := gd_bounds h hi
  have := run_next_ascii (P := Tryz.prog) w ⟨l.toArray⟩ i ty hs (by rw [e]; omega)
  rw [e] at this
  exact this
theorem w32 {z : Nat} (h : z ≤ 9) : IntKind.i32.wrap (z : Int) = (z : Int) := by
  obtain rfl | rfl | rfl | rfl | rfl | rfl | rfl | rfl | rfl | rfl : z = 0 ∨ z = 1 ∨ z = 2 ∨ z = 3 ∨ z = 4 ∨ z = 5 ∨ z = 6 ∨ z = 7 ∨ z = 8 ∨ z = 9 := by omega
  all_goals rfl
/-- A power's worth. -/
def pwN (pn : Bool) (ds : List UInt8) : Int := if pn then -((min (nat ds) far : Nat) : Int) else ((min (nat ds) far : Nat) : Int)
theorem pwN_in (pn : Bool) (ds : List UInt8) : -1048576 ≤ pwN pn ds ∧ pwN pn ds ≤ 1048576 := by
  have : min (nat ds) far ≤ 1048576 := Nat.min_le_right _ _
  unfold pwN
  split <;> omega
set_option maxRecDepth 100000 in
set_option maxHeartbeats 2000000 in
theorem powerNumber_any (ng hx pn : Bool) (wh pt ds : List UInt8) (hd : allD ds) (hl : ds.length ≤ 4096) (w : World) :
    Calls Tryz.prog 137 #[.agg #[.bool ng, .bool hx, .string ⟨wh.toArray⟩, .string ⟨pt.toArray⟩, .bool pn, .string ⟨ds.toArray⟩]] w fun e w' => e = .returned (.int .i64 (pwN pn ds)) ∧ ∃ o p, w' = (w.alloc o).alloc (.stringIter ⟨ds.toArray⟩ p) := by
  obtain ⟨T, hT⟩ : ∃ T : Obj, T = .cells #[.bool ng, .bool hx, .string ⟨wh.toArray⟩, .string ⟨pt.toArray⟩, .bool pn, .string ⟨ds.toArray⟩] 129 := ⟨_, rfl⟩
  obtain ⟨wb, hwb⟩ : ∃ wb, w.alloc (.cells #[.bool ng, .bool hx, .string ⟨wh.toArray⟩, .string ⟨pt.toArray⟩, .bool pn, .string ⟨ds.toArray⟩] 129) = wb := ⟨_, rfl⟩
  have c4 : wb.cell? ⟨w.heap.size, 4, none⟩ = some (.bool pn) := by rw [← hwb, (Sp.new w _).cell]; rfl
  have c5 : wb.cell? ⟨w.heap.size, 5, none⟩ = some (.string ⟨ds.toArray⟩) := by rw [← hwb, (Sp.new w _).cell]; rfl
  have hlt : w.heap.size < wb.heap.size := by rw [← hwb]; simp
  have hAD : Hid (allD ds) := hd
  have Hwb : Hid (∃ o, wb = w.alloc o) := ⟨_, hwb.symm⟩
  go_enter Tryz.func137, Tryz.ntmps137
  go_wp2_with fail
  go_loopg [3] (ds.length) (fun g v3 wx => ∃ i : Nat, i + g = ds.length ∧ v3 = .int .i64 ((min (nat (ds.take i)) far : Nat) : Int) ∧ wx = wb.iter ⟨ds.toArray⟩ i)
  case atStart => exact ⟨0, by omega, by simp [nat], rfl⟩
  case round =>
    obtain ⟨i, hig, rfl, rfl⟩ := hrel
    obtain ⟨n, hn⟩ : ∃ n, min (nat (ds.take i)) far = n := ⟨_, rfl⟩
    rw [hn]
    by_cases hil : i < ds.length
    · have hnx := fun ty => next_at hAD.out hil wb ty
      have hst := cap_step ds i hil n hn.symm _ rfl
      have hb := gd_bounds hAD.out hil
      unfold dv at hst
      obtain ⟨x, hx⟩ : ∃ x, (ds.getD i 0).toNat = x := ⟨_, rfl⟩
      rw [hx] at hnx hst hb
      have hnf : n ≤ 1048576 := by rw [← hn]; exact Nat.min_le_right _ _
      obtain ⟨hb1, hb2⟩ := hb
      have w1 : IntKind.i32.wrap ((x : Int) - 48) = ((x - 48 : Nat) : Int) := by
        rw [show (x : Int) - 48 = ((x - 48 : Nat) : Int) by omega]
        obtain ⟨z, hz⟩ : ∃ z, x - 48 = z := ⟨_, rfl⟩
        have : z ≤ 9 := by omega
        rw [hz]
        exact w32 this
      obtain ⟨y, hy⟩ : ∃ y, x - 48 = y := ⟨_, rfl⟩
      rw [hy] at w1 hst
      have hy9 : y ≤ 9 := by omega
      replace hst : Hid _ := hst
      replace hn : Hid _ := hn
      clear hx hy
      by_cases hf : (n : Int) * 10 + (y : Int) < 1048576
      · go_wp2_with fail
        go_roundg (gk - 1)
        case measure => omega
        case rel =>
          refine ⟨i + 1, by omega, ?_, rfl⟩
          rw [← hst.out]
          unfold far
          congr 1
          omega
      · go_wp2_with fail
        all_goals
          go_roundg (gk - 1)
          case measure => omega
          case rel =>
            refine ⟨i + 1, by omega, ?_, rfl⟩
            rw [← hst.out]
            unfold far
            congr 1
            omega
    · obtain rfl : i = ds.length := by omega
      have hnx := fun ty => next_fin (l := ds) wb ty
      have hnf : n ≤ 1048576 := by rw [← hn]; exact Nat.min_le_right _ _
      rw [List.take_length] at hn
      replace hn : Hid _ := hn
      have it4 : (wb.iter ⟨ds.toArray⟩ ds.length).cell? ⟨w.heap.size, 4, none⟩ = some (.bool pn) := ((Keep.refl wb).alloc _).cell c4
      cases pn
      · go_wp2_with fail
        go_ret
        obtain ⟨o, ho⟩ := Hwb.out
        exact ⟨by unfold pwN; rw [hn.out]; rfl, o, ds.length, by rw [← ho]; rfl⟩
      · go_wp2_with fail
        go_ret
        obtain ⟨o, ho⟩ := Hwb.out
        exact ⟨by unfold pwN; rw [hn.out]; rfl, o, ds.length, by rw [← ho]; rfl⟩
end Go.Proofs.YtpdjpjkieafnbaaGreatDoor.Li
