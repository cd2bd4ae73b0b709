import Derived.Test.YtpdjpjkieafnbaaDoorProg
import Derived.Test.YtpdjpjkieafnbaaDoorLE7
import Derived.Test.YtpdjpjkieafnbaaDoorLF10
import Derived.Test.YtpdjpjkieafnbaaDoorMF9
import Derived.WalkKit
import Derived.WalkSpells
import Derived.WalkLawsBesides
import Derived.Laws.CopyOwn
import Derived.Deep.Draws
import Derived.Deep.QuietTactic
import Derived.BigQuiet
import Derived.Laws.MathBits
import Derived.Laws.BytesArg
import Derived.Lib.OthersKept
import Derived.Deep.RegionWith
import Derived.WalkMore
import Derived.Deep.LoopGhost
import Derived.Deep.RegionLaw
import Derived.Test.YtpdjpjkieafnbaaDoorW1
set_option linter.unusedVariables false
set_option linter.unusedSimpArgs false
namespace Go.Proofs.YtpdjpjkieafnbaaDoor.Li
open Go.RowKit Lb
theorem decode_highJ (s : ByteArray) (pos : Nat) (h : 128 ≤ (s.get! pos).toNat) : 128 ≤ (Utf8.decode s pos).1 := by
  have hb : ∀ k, (s.get! (pos + k)).toNat < 256 := fun k => (s.get! (pos + k)).toNat_lt
  have h0 := hb 0; have h1 := hb 1; have h2 := hb 2; have h3 := hb 3
  simp only [Utf8.decode]
  repeat' split
  all_goals simp_all [Utf8.runeError]
  all_goals omega
theorem S8_get! (cs : List Nat) (k : Nat) (hk : k < cs.length) (hx : cs.getD k 0 < 256) : ((S8 cs).get! k).toNat = cs.getD k 0 := by
  have h : k < (S8 cs).size := by rw [S8_size]; exact hk
  have := S8_get cs k h hx
  rw [← this]
  congr 1
  show (S8 cs).data[k]! = (S8 cs).data[k]'_
  exact getElem!_pos _ _ _
/-- A byte that is no digit, as a rune: no digit. -/
theorem rune_bad (cs : List Nat) (p : Nat) (hp : p < cs.length) (hb : cs.getD p 0 < 256) (hx : cs.getD p 0 < 48 ∨ 58 ≤ cs.getD p 0) : (Utf8.decode (S8 cs) p).1 < 48 ∨ 58 ≤ (Utf8.decode (S8 cs) p).1 := by
  have hg := S8_get! cs p hp hb
  have hs : p < (S8 cs).size := by rw [S8_size]; exact hp
  by_cases h : cs.getD p 0 < 128
  · have := decode_ascii (S8 cs) p hs (by rw [S8_get cs p hs hb]; exact h)
    rw [this, S8_get cs p hs hb]
    exact hx
  · have := decode_highJ (S8 cs) p (by rw [hg]; omega)
    omega
set_option maxRecDepth 100000 in
set_option maxHeartbeats 400000 in
theorem Read_none (w : World) : Calls Tryd.prog 7 #[.string (S8 [])] w fun e w' => e = .returned (.tuple #[.slice none 0 0, .int .i64 10, .int .i64 0]) ∧ Keep w w' := by
  have hne : (S8 []).toList.isEmpty = true := by rw [ByteArray.toList_eq]; rfl
  go_enter Tryd.func7, Tryd.ntmps7
  go_wp2_with fail
  go_ret3
  exact ⟨rfl, Keep.refl _⟩
set_option maxRecDepth 100000 in
set_option maxHeartbeats 400000 in
theorem Read_bad (cs : List Nat) (p : Nat) (w : World) (hb : ∀ x ∈ cs, x < 256) (hp : p < cs.length) (hd : ∀ i, i < p → 48 ≤ cs.getD i 0 ∧ cs.getD i 0 < 58) (hx : cs.getD p 0 < 48 ∨ 58 ≤ cs.getD p 0) (_hl : cs.length ≤ 140737488355328) :
    Calls Tryd.prog 7 #[.string (S8 cs)] w fun e w' => e = .returned (.tuple #[.slice none 0 0, .int .i64 10, .int .i64 (p : Nat)]) ∧ Keep w w' := by
  have hsz := S8_size cs
  have hne : (S8 cs).toList.isEmpty = false := by
    rw [ByteArray.toList_eq]
    simp [S8]
    intro h; simp [h] at hp
  have hru := rune_bad cs p hp (hb _ (by simp [List.getD, hp])) hx
  go_enter Tryd.func7, Tryd.ntmps7
  go_wp2_with fail
  have hit0 : (w.iter (S8 cs) 0).heap[w.heap.size]? = some (.stringIter (S8 cs) 0) := World.iter_heap w _ 0
  have hk0 : Keep w (w.iter (S8 cs) 0) := (Keep.refl w).alloc _
  generalize w.iter (S8 cs) 0 = w2 at hit0 hk0 ⊢
  go_loopw [] (fun wr => ∃ k : Nat, k ≤ p ∧ wr.heap[w.heap.size]? = some (.stringIter (S8 cs) k) ∧ Keep w wr) (fun wr => cs.length - wr.iterPos w.heap.size)
  case atStart => exact ⟨0, by omega, hit0, hk0⟩
  case round =>
    obtain ⟨k, hk, hit, hkp⟩ := hrel
    have hkl : k < cs.length := by omega
    have hks : k < (S8 cs).size := by rw [hsz]; exact hkl
    by_cases hkp' : k < p
    · obtain ⟨x, hx⟩ : ∃ x, cs.getD k 0 = x := ⟨_, rfl⟩
      obtain ⟨hx1, hx2⟩ := hd k hkp'
      rw [hx] at hx1 hx2
      have hb : ((S8 cs)[k]'hks).toNat = x := by rw [S8_get cs k hks (by omega)]; exact hx
      have hnx := fun ty => Lib.run_next_ascii_at (P := Tryd.prog) wr w.heap.size (S8 cs) k ty hit hks (by omega)
      rw [hb] at hnx
      have hit1 := Lib.iterAt_heap wr w.heap.size (S8 cs) k (k + 1) hit
      have hkp1 : Keep w (wr.iterAt w.heap.size (S8 cs) (k + 1)) := iterAt_keep hkp (by omega) _ _
      have Hit := hit
      have hd1 : decide ((x : Int) < 48) = false := by simp; omega
      clear hb hx hit hkp hks
      generalize wr.iterAt w.heap.size (S8 cs) (k + 1) = w3 at hnx hit1 hkp1
      go_wp2_with fail
      go_roundw
      case rel => exact ⟨k + 1, by omega, hit1, hkp1⟩
      case measure => rw [iterPos_of hit1, iterPos_of Hit]; omega
    · obtain rfl : k = p := by omega
      have hnx := fun ty => Lib.run_next_any_at (P := Tryd.prog) wr w.heap.size (S8 cs) k ty hit hks
      generalize (Utf8.decode (S8 cs) k).2 = sz at hnx
      generalize (Utf8.decode (S8 cs) k).1 = d at hnx hru
      have hkp1 : Keep w (wr.iterAt w.heap.size (S8 cs) (k + sz)) := iterAt_keep hkp (by omega) _ _
      generalize wr.iterAt w.heap.size (S8 cs) (k + sz) = w3 at hnx hkp1
      clear hit hkp hks hx hd hb
      by_cases hlow : d < 48
      · have hd1 : decide ((d : Int) < 48) = true := by simp; omega
        go_wp2_with fail
        go_ret3
        exact ⟨rfl, hkp1⟩
      · have hd1 : decide ((d : Int) < 48) = false := by simp; omega
        have hd2 : decide ((57 : Int) < (d : Int)) = true := by simp; omega
        go_wp2_with fail
        go_ret3
        exact ⟨rfl, hkp1⟩
end Go.Proofs.YtpdjpjkieafnbaaDoor.Li
set_option linter.unusedVariables false
set_option linter.unusedSimpArgs false
namespace Go.Proofs.YtpdjpjkieafnbaaDoor.Li
open Go.RowKit Lb Nr
/-- A decimal's text, put together: a sign, digits, a point and digits, a power. -/
def dtx (ng : Bool) (A B P : List UInt8) : List UInt8 := (if ng then [45] else []) ++ (A ++ ((if B = [] then [] else 46 :: B) ++ P))
def ptx (ns : Bool) (E : List UInt8) : List UInt8 := 101 :: ((if ns then [45] else []) ++ E)
theorem tw_end {p : UInt8 → Bool} {A R : List UInt8} (hA : ∀ b ∈ A, p b = true) (hR : R = [] ∨ ∃ c r, R = c :: r ∧ p c = false) : (A ++ R).takeWhile p = A := by
  induction A with
  | nil =>
    rcases hR with rfl | ⟨c, r, rfl, hc⟩
    · rfl
    · simp [hc]
  | cons a A ih =>
    rw [List.cons_append, List.takeWhile_cons_of_pos (hA a (by simp)), ih (fun b hb => hA b (by simp [hb]))]
theorem drop_len {α : Type} (A R : List α) : (A ++ R).drop A.length = R := by simp
theorem isD_not {c : UInt8} (h : c.toNat < 48 ∨ 57 < c.toNat) : isD c = false := by
  unfold isD
  exact decide_eq_false (by omega)
theorem isD_in {c : UInt8} (h : isD c = true) : 48 ≤ c.toNat ∧ c.toNat ≤ 57 := of_decide_eq_true h
theorem tk_at (X R ts : List UInt8) : tk (X ++ R) ts X.length = (match R with | [] => false | c :: _ => decide (c ∈ ts)) := by
  unfold tk
  cases R with
  | nil => simp
  | cons c r =>
    have e : (X ++ c :: r).getD X.length 0 = c := by simp [List.getD]
    rw [e]
    show _ = decide (c ∈ ts)
    by_cases h : c ∈ ts
    · rw [decide_eq_true h, decide_eq_true]
      exact ⟨by simp, h⟩
    · rw [decide_eq_false h, decide_eq_false]
      exact fun q => h q.2
/-- What a decimal's text says, its parts told. -/
theorem dtx_parts (ng : Bool) (A B : List UInt8) (P : List UInt8) (hA : allD A) (hA0 : A ≠ []) (hB : allD B) (hP : P = [] ∨ ∃ ns E, P = ptx ns E ∧ allD E ∧ E ≠ []) :
    cNg (dtx ng A B P) = ng ∧ cHx (dtx ng A B P) = false ∧ cWh (dtx ng A B P) = A ∧ cPt (dtx ng A B P) = B ∧ cGo (dtx ng A B P) = true ∧ (∃ X, X ++ P = dtx ng A B P ∧ X.length = cK4 (dtx ng A B P)) := by
  have hRhead : ∀ R, R = (if B = [] then [] else 46 :: B) ++ P → R = [] ∨ ∃ c r, R = c :: r ∧ (c = 46 ∨ c = 101) := by
    intro R hR
    by_cases hb : B = []
    · rw [if_pos hb, List.nil_append] at hR
      rcases hP with rfl | ⟨ns, E, rfl, -, -⟩
      · exact .inl hR
      · exact .inr ⟨101, _, hR, .inr rfl⟩
    · rw [if_neg hb] at hR
      exact .inr ⟨46, _, hR, .inl rfl⟩
  obtain ⟨a, A', rfl⟩ := List.exists_cons_of_ne_nil hA0
  have ha := isD_in (hA a (by simp))
  obtain ⟨R, hR⟩ : ∃ R, R = (if B = [] then [] else 46 :: B) ++ P := ⟨_, rfl⟩
  have hs : dtx ng (a :: A') B P = (if ng then [45] else []) ++ (a :: A' ++ R) := by unfold dtx; rw [← hR]
  have hn : cNg (dtx ng (a :: A') B P) = ng := by
    rw [hs]
    unfold cNg Lib.hasPrefix
    cases ng
    · have : a ≠ 45 := fun e => by rw [e] at ha; exact absurd ha.1 (by decide)
      simp only [Bool.false_eq_true, if_false, List.nil_append, List.cons_append, List.isPrefixOf]
      simp [Ne.symm this]
    · simp [List.isPrefixOf]
  have hk1 : (dtx ng (a :: A') B P).drop (cK1 (dtx ng (a :: A') B P)) = a :: A' ++ R := by
    unfold cK1
    rw [hn, hs]
    cases ng <;> simp
  have hx : cHx (dtx ng (a :: A') B P) = false := by
    unfold cHx
    rw [hk1]
    unfold Lib.hasPrefix
    have key : ∀ c r, (A' ++ R) = c :: r → c ≠ 120 := by
      intro c r h e
      subst e
      cases A' with
      | nil =>
        rw [List.nil_append] at h
        rcases hRhead R hR with h0 | ⟨c, r', h1, h2⟩
        · rw [h0] at h; cases h
        · rw [h1] at h
          injection h with h3
          rw [h3] at h2
          revert h2
          decide
      | cons b A'' =>
        have hb := isD_in (hA b (by simp))
        rw [List.cons_append] at h
        injection h with h3
        rw [h3] at hb
        revert hb
        decide
    rw [List.cons_append]
    cases hAR : A' ++ R with
    | nil => simp [List.isPrefixOf]
    | cons c r =>
      have := key c r hAR
      simp [List.isPrefixOf, Ne.symm this]
  have hk2 : cK2 (dtx ng (a :: A') B P) = cK1 (dtx ng (a :: A') B P) := by unfold cK2; rw [hx]; rfl
  have hw : cWh (dtx ng (a :: A') B P) = a :: A' := by
    unfold cWh
    rw [hk2, hk1, hx, isX_fun]
    apply tw_end hA
    rcases hRhead R hR with h | ⟨c, r, h1, h2⟩
    · exact .inl h
    · refine .inr ⟨c, r, h1, isD_not ?_⟩
      rcases h2 with rfl | rfl <;> decide
  have hK1 : cK1 (dtx ng (a :: A') B P) = (if ng then [45] else [] : List UInt8).length := by unfold cK1; rw [hn]; cases ng <;> rfl
  have hK3 : cK3 (dtx ng (a :: A') B P) = ((if ng then [45] else [] : List UInt8) ++ (a :: A')).length := by
    unfold cK3
    rw [hk2, hw, hK1, List.length_append]
  have hs2 : dtx ng (a :: A') B P = ((if ng then [45] else []) ++ (a :: A')) ++ R := by rw [hs, List.append_assoc]
  have hd3 : (dtx ng (a :: A') B P).drop (cK3 (dtx ng (a :: A') B P)) = R := by
    rw [hK3]
    conv => lhs; rw [hs2]
    exact drop_len _ _
  have hwne : (cWh (dtx ng (a :: A') B P) == []) = false := by rw [hw]; rfl
  by_cases hb : B = []
  · have hRP : R = P := by rw [hR, if_pos hb, List.nil_append]
    have hdot : cDot (dtx ng (a :: A') B P) = false := by
      unfold cDot
      rw [hd3, hRP]
      rcases hP with rfl | ⟨ns, E, rfl, -, -⟩
      · simp [Lib.hasPrefix, List.isPrefixOf]
      · simp [Lib.hasPrefix, List.isPrefixOf, ptx]
    refine ⟨hn, hx, hw, ?_, ?_, _, (hs2.trans (by rw [hRP])).symm, ?_⟩
    · unfold cPt; rw [hdot, hb]; rfl
    · unfold cGo; rw [hwne, hdot]; rfl
    · unfold cK4; rw [hdot]; exact hK3.symm
  · have hRB : R = 46 :: (B ++ P) := by rw [hR, if_neg hb, List.cons_append]
    have hdot : cDot (dtx ng (a :: A') B P) = true := by
      unfold cDot
      rw [hd3, hRB, hwne]
      simp [Lib.hasPrefix, List.isPrefixOf]
    have hpt : cPt (dtx ng (a :: A') B P) = B := by
      unfold cPt
      rw [hdot, if_pos rfl, hx, isX_fun, ← List.drop_drop, hd3, hRB]
      show (B ++ P).takeWhile isD = B
      apply tw_end hB
      rcases hP with rfl | ⟨ns, E, rfl, -, -⟩
      · exact .inl rfl
      · exact .inr ⟨101, _, rfl, by decide⟩
    refine ⟨hn, hx, hw, hpt, ?_, ((if ng then [45] else []) ++ (a :: A')) ++ (46 :: B), ?_, ?_⟩
    · unfold cGo
      rw [hwne, hdot, hpt]
      have : (B == []) = false := by rw [beq_eq_false_iff_ne]; exact hb
      rw [this]; rfl
    · rw [hs2, hRB]; simp
    · unfold cK4
      rw [hdot, if_pos rfl, hpt, hK3]
      simp
      omega
theorem tw_all' {E : List UInt8} (h : allD E) : E.takeWhile isD = E := by
  have := tw_end (p := isD) (A := E) (R := []) h (.inl rfl)
  rwa [List.append_nil] at this
theorem at_end {s X P : List UInt8} {k : Nat} (hX : X ++ P = s) (hk : X.length = k) (hP : P = []) : cpE false s k = false ∧ cpO false s k = true ∧ cpN false s k = false ∧ cpD false s k = [] := by
  have hE : cpE false s k = false := by
    unfold cpE
    rw [← hX, ← hk, tk_at, hP]
  refine ⟨hE, ?_, ?_, ?_⟩
  · unfold cpO
    rw [hE]
    have : k = s.length := by rw [← hX, hP, List.append_nil, hk]
    simp [this]
  · unfold cpN; rw [hE]; rfl
  · unfold cpD; rw [hE]; rfl
theorem at_pow {s X : List UInt8} {k : Nat} (ns : Bool) (E : List UInt8) (hX : X ++ ptx ns E = s) (hk : X.length = k) (hE : allD E) (hE0 : E ≠ []) : cpO false s k = true ∧ cpN false s k = ns ∧ cpD false s k = E := by
  obtain ⟨a, E', rfl⟩ := List.exists_cons_of_ne_nil hE0
  have ha := isD_in (hE a (by simp))
  have h1 : cpE false s k = true := by
    unfold cpE
    rw [← hX, ← hk, tk_at]
    show decide ((101 : UInt8) ∈ mkE false) = true
    decide
  have hs2 : s = (X ++ [101]) ++ ((if ns then [45] else []) ++ (a :: E')) := by rw [← hX]; unfold ptx; simp
  have hk2 : k + 1 = (X ++ [101]).length := by simp [hk]
  have h2 : cpS s k = ns := by
    unfold cpS
    rw [hs2, hk2, tk_at]
    cases ns
    · have : a ∉ ([43, 45] : List UInt8) := by
        intro q
        simp only [List.mem_cons, List.not_mem_nil, or_false] at q
        rcases q with q | q
        all_goals
          rw [q] at ha
          exact absurd ha.1 (by decide)
      exact decide_eq_false this
    · show decide ((45 : UInt8) ∈ ([43, 45] : List UInt8)) = true
      decide
  have h3 : tk s [45] (k + 1) = ns := by
    rw [hs2, hk2, tk_at]
    cases ns
    · have : a ∉ ([45] : List UInt8) := by
        intro q
        simp only [List.mem_cons, List.not_mem_nil, or_false] at q
        rw [q] at ha
        exact absurd ha.1 (by decide)
      exact decide_eq_false this
    · show decide ((45 : UInt8) ∈ ([45] : List UInt8)) = true
      decide
  have hJ : cpJ s k = k + 1 + (if ns then [45] else [] : List UInt8).length := by
    unfold cpJ
    rw [h2]
    cases ns <;> simp
  have hD : cpD false s k = a :: E' := by
    unfold cpD
    rw [if_pos h1, hJ]
    have : s.drop (k + 1 + (if ns then [45] else [] : List UInt8).length) = a :: E' := by
      rw [hs2, ← List.append_assoc, hk2, ← List.length_append]
      exact drop_len _ _
    rw [this]
    exact tw_all' hE
  have hK : cpK false s k = s.length := by
    unfold cpK
    rw [if_pos h1, hD, hJ, hk2]
    conv => rhs; rw [hs2]
    simp only [List.length_append]
    omega
  refine ⟨?_, ?_, hD⟩
  · unfold cpO
    rw [if_pos h1, hD, hK]
    simp
  · unfold cpN
    rw [h1, h3]
    rfl
/-- EVERY DECIMAL'S TEXT IS READ AS THE NUMBER NEAREST TO WHAT IT SAYS. -/
theorem Read_txt (ng : Bool) (A B P : List UInt8) (V : Int) (hA : allD A) (hA0 : A ≠ []) (hB : allD B) (hP : (P = [] ∧ V = 0) ∨ ∃ ns E, P = ptx ns E ∧ allD E ∧ E ≠ [] ∧ V = pwN ns E) (hl : (dtx ng A B P).length ≤ 4096) (w : World) :
    Calls Tryd.prog 4 #[.string ⟨(dtx ng A B P).toArray⟩] w fun e w' =>
      ∃ x : Nat, e = .returned (.tuple #[.float .f64 (x + sg ng), .int .i64 0, .int .i64 0]) ∧ NB (nat (A ++ B) * 10 ^ (V - (B.length : Int)).toNat) (10 ^ (-(V - (B.length : Int))).toNat) x ∧ Keep w w' := by
  have hP' : P = [] ∨ ∃ ns E, P = ptx ns E ∧ allD E ∧ E ≠ [] := by
    rcases hP with h | ⟨ns, E, h1, h2, h3, -⟩
    · exact .inl h.1
    · exact .inr ⟨ns, E, h1, h2, h3⟩
  obtain ⟨p1, p2, p3, p4, p5, X, hX, hk⟩ := dtx_parts ng A B P hA hA0 hB hP'
  obtain ⟨g1, g2, g3, g4⟩ := way_go p5
  have hall : cOk (dtx ng A B P) = true ∧ rdP (dtx ng A B P) = V - (B.length : Int) := by
    rw [p2] at g1 g2 g4
    unfold rdP
    rw [g1, g2, g4, p4]
    rcases hP with ⟨h1, h2⟩ | ⟨ns, E, h1, h2, h3, h4⟩
    · obtain ⟨q1, q2, q3, q4⟩ := at_end hX hk h1
      refine ⟨q2, ?_⟩
      rw [q3, q4, h2]
      have : pwN false [] = 0 := by decide
      rw [this]
    · subst h1
      obtain ⟨q1, q2, q3⟩ := at_pow ns E hX hk h2 h3
      exact ⟨q1, by rw [q2, q3, h4]⟩
  have hN : rdN (dtx ng A B P) = nat (A ++ B) := by unfold rdN; rw [p3, p4]
  have h := Read_dec (dtx ng A B P) w hl hall.1 p2
  rw [p1, hN, hall.2] at h
  exact h
end Go.Proofs.YtpdjpjkieafnbaaDoor.Li
