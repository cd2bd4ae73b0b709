import Derived.Test.YtpdjpjkieafnbaaGreatDoorProg
import Derived.Test.YtpdjpjkieafnbaaGreatDoorLE7
import Derived.Test.YtpdjpjkieafnbaaGreatDoorLF10
import Derived.Test.YtpdjpjkieafnbaaGreatDoorMC16
import Derived.WalkKit
import Derived.WalkSpells
import Derived.WalkLawsBesides
import Derived.Laws.CopyOwn
import Derived.Deep.Draws
import Derived.Deep.QuietTactic
import Derived.BigQuiet
import Derived.Laws.MathBits
import Derived.Laws.BytesArg
import Derived.Lib.OthersKept
import Derived.Deep.RegionWith
import Derived.WalkMore
import Derived.Deep.LoopGhost
import Derived.Deep.RegionLaw
set_option linter.unusedVariables false
set_option linter.unusedSimpArgs false
namespace Go.Proofs.YtpdjpjkieafnbaaGreatDoor.Li
open Go.RowKit Lb
theorem numv_from (b : List Nat) : ∀ s, b.foldl (fun a x => a * 10 + (x - 48)) s = s * 10 ^ b.length + numv b := by
  induction b with
  | nil => intro s; simp [numv]
  | cons x xs ih =>
    intro s
    have h1 := ih (s * 10 + (x - 48))
    have h2 := ih (0 * 10 + (x - 48))
    simp only [List.foldl_cons, numv, List.length_cons] at *
    rw [h1, h2, Nat.pow_succ]
    grind
theorem numv_append (a b : List Nat) : numv (a ++ b) = numv a * 10 ^ b.length + numv b := by
  rw [numv, List.foldl_append]
  exact numv_from b _
theorem numv_lt (l : List Nat) (h : ∀ x ∈ l, 48 ≤ x ∧ x < 58) : numv l < 10 ^ l.length := by
  induction l with
  | nil => simp [numv]
  | cons x xs ih =>
    have h1 := ih (fun y hy => h y (by simp [hy]))
    have h2 := h x (by simp)
    have h3 := numv_append [x] xs
    simp only [List.singleton_append] at h3
    rw [h3, List.length_cons, Nat.pow_succ]
    have h4 : numv [x] = x - 48 := by simp [numv]
    rw [h4]
    have h5 : (x - 48) * 10 ^ xs.length ≤ 9 * 10 ^ xs.length := Nat.mul_le_mul_right _ (by omega)
    omega
set_option maxRecDepth 100000 in
set_option maxHeartbeats 400000 in
theorem joined_zero (av : Option Addr) (c : Nat) (cs : List Nat) (w : World) (hcs : ∀ x ∈ cs, 48 ≤ x ∧ x < 58) (hl : cs.length ≤ 140737488355328) :
    Calls Tryz.prog 74 #[.string (S8 cs), .slice av 0 c] w fun e w' => ∃ v, e = .returned v ∧ NatR w.heap.size w' v (numv cs) ∧ Keep w w' := by
  go_enter Tryz.func74, Tryz.ntmps74
  go_wp2_with fail
  refine (joinedChunks_any cs w hcs hl).mono ?_
  rintro e w1 ⟨v, rfl, hn, hk⟩
  obtain ⟨a, c, l, rfl, -⟩ := hn.shape
  go_wp2_with fail
  go_ret
  exact ⟨_, rfl, hn, hk⟩
end Go.Proofs.YtpdjpjkieafnbaaGreatDoor.Li
set_option linter.unusedVariables false
set_option linter.unusedSimpArgs false
namespace Go.Proofs.YtpdjpjkieafnbaaGreatDoor.Li
open Go.RowKit Lb
theorem str_to (cs : List Nat) (q : Nat) (hq : q ≤ cs.length) (wx : World) : (Instr.slice 9 (.string (S8 cs)) none (some (.int .i64 (q : Nat))) none).run Tryz.prog wx = .ok (.string (S8 (cs.take q))) wx := by
  have hsz := S8_size cs
  have h1 : (S8 cs).extract 0 q = S8 (cs.take q) := by
    rw [S8, ByteArray.extract_mk]
    simp [S8, List.map_take]
  simp [Instr.slice, Instr.sliceBounds, Instr.sliceBound, asIntOf, run_underlying Tryz.underlying9, hsz, hq, h1]
theorem str_from (cs : List Nat) (q : Nat) (hq : q ≤ cs.length) (wx : World) : (Instr.slice 9 (.string (S8 cs)) (some (.int .i64 (q : Nat))) none none).run Tryz.prog wx = .ok (.string (S8 (cs.drop q))) wx := by
  have hsz := S8_size cs
  have h1 : (S8 cs).extract q cs.length = S8 (cs.drop q) := by
    rw [S8, ByteArray.extract_mk]
    simp [S8, List.map_drop]
    rw [List.take_of_length_le (by simp)]
  simp [Instr.slice, Instr.sliceBounds, Instr.sliceBound, asIntOf, run_underlying Tryz.underlying9, hsz, hq, h1]
def JoinedSaid (k : Nat) : Prop := ∀ (av : Option Addr) (c : Nat) (cs : List Nat) (w : World), k ≤ c → Pw w av k → (∀ x ∈ cs, 48 ≤ x ∧ x < 58) → cs.length ≤ 1099511627776 →
    Calls Tryz.prog 74 #[.string (S8 cs), .slice av k c] w fun e w' => ∃ v, e = .returned v ∧ NatR w.heap.size w' v (numv cs) ∧ Keep w w'
set_option maxRecDepth 100000 in
set_option maxHeartbeats 1600000 in
theorem joined_step (k : Nat) (hk : k < 32) (ih : JoinedSaid k) : JoinedSaid (k + 1) := by
  intro av c cs w hc hpw hcs hl
  have hsz := S8_size cs
  obtain ⟨g, gx, cx, lx, rfl, hcell, hlx, hrx, hmx, hnx, hvx⟩ := hpw k (by omega)
  have h2k : 2 ^ k ≤ 2147483648 := Nat.le_trans (Nat.pow_le_pow_right (by omega) (show k ≤ 31 by omega)) (by decide)
  obtain ⟨P, hP⟩ : ∃ P, 288 * 2 ^ k = P := ⟨_, rfl⟩
  have hPi : (288 : Int) * 2 ^ k = (P : Int) := by rw [← hP]; simp
  have hPw : IntKind.i64.wrap (288 * 2 ^ k) = (P : Int) := by rw [hPi, IntKind.wrap_i64]; omega
  have HP : Hid (288 * 2 ^ k = P) := hP
  have hPb : P ≤ 618475290624 := by omega
  clear hP h2k
  by_cases hcut : cs.length ≤ P
  · have hd : decide ((cs.length : Int) - (P : Int) ≤ 0) = true := by simp; omega
    have hJ := ih (some ⟨g, 0, none⟩) c cs w (by omega) (hpw.less (by omega)) hcs hl
    go_enter Tryz.func74, Tryz.ntmps74
    go_wp2_with fail
    refine hJ.mono ?_
    rintro e w1 ⟨v, rfl, hn, hk1⟩
    have hn' := hn
    obtain ⟨a1, c1, l1, rfl, -⟩ := hn.shape
    go_wp2_with fail
    go_ret
    exact ⟨_, rfl, hn', hk1⟩
  · have hd : decide ((cs.length : Int) - (P : Int) ≤ 0) = false := by simp; omega
    obtain ⟨q, hq⟩ : ∃ q, q + P = cs.length := ⟨cs.length - P, by omega⟩
    have hqi : (cs.length : Int) - (P : Int) = (q : Int) := by omega
    have hd0 : decide ((q : Int) ≤ 0) = false := by simp; omega
    have hs1 := str_to cs q (by omega)
    have hs2 := str_from cs q (by omega)
    have hs3 := fun wx => slice70_to wx g (k + 1) c k (by omega)
    have hJ1 := fun wx (h : Pw wx (some ⟨g, 0, none⟩) k) => ih (some ⟨g, 0, none⟩) c (cs.take q) wx (by omega) h (fun x hx => hcs x (List.mem_of_mem_take hx)) (by simp; omega)
    have hJ2 := fun wx (h : Pw wx (some ⟨g, 0, none⟩) k) => ih (some ⟨g, 0, none⟩) c (cs.drop q) wx (by omega) h (fun x hx => hcs x (List.mem_of_mem_drop hx)) (by simp; omega)
    have hp0 := hpw.less (show k ≤ k + 1 by omega)
    have HV : Hid (numv (cs.take q) * 10 ^ P + numv (cs.drop q) = numv cs) := by
      show _ = _
      have h1 := numv_append (cs.take q) (cs.drop q)
      rw [List.take_append_drop] at h1
      rw [h1, List.length_drop, show cs.length - q = P by omega]
    have hlA : (cs.take q).length ≤ 1099511627776 := by simp; omega
    have hlB : (cs.drop q).length ≤ 1099511627776 := by simp; omega
    have hnA0 := numv_lt (cs.take q) (fun x hx => hcs x (List.mem_of_mem_take hx))
    have hnB0 := numv_lt (cs.drop q) (fun x hx => hcs x (List.mem_of_mem_drop hx))
    have hlx2 : lx.length ≤ 77309411328 := by
      have h1 := ten_len lx k hnx hvx
      have h2 : 2 ^ k ≤ 2147483648 := Nat.le_trans (Nat.pow_le_pow_right (by omega) (show k ≤ 31 by omega)) (by decide)
      omega
    clear hd
    generalize cs.take q = ca at *
    generalize cs.drop q = cb at *
    go_enter Tryz.func74, Tryz.ntmps74
    go_wp2_with fail
    go_region_with (first
      | (go_at_call_of 74 (Value.string (S8 ca)); refine (hJ1 _ ?_).mono ?_; (first | exact hp0 | exact Pw.keep (w := w.drew) hp0 hkB); rintro e wA ⟨vA, rfl, hnA, hkA⟩; have hnA' := hnA; obtain ⟨aA, cA, lA, rfl, hcA, rA, mA, pA, eA, -⟩ := hnA.shape)
      | (go_at_call_of 74 (Value.string (S8 cb)); refine (hJ2 _ ?_).mono ?_; (first | exact hp0 | exact Pw.keep (w := w.drew) hp0 hkA); rintro e wB ⟨vB, rfl, hnB, hkB⟩; have hnB' := hnB; obtain ⟨aB, cB, lB, rfl, hcB, rB, mB, pB, eB, -⟩ := hnB.shape))
    have hk1 : Keep w wA := ((Keep.refl w).drew).trans hkA
    have hk2 : Keep w wB := hk1.trans hkB
    have hcw := hk2.cell hcell
    have hLA : lA.length ≤ 1099511627776 := Nat.le_trans (len_le_pow pA ca.length (by rw [eA]; exact Nat.lt_of_lt_of_le hnA0 (Nat.pow_le_pow_left (by omega) _))) hlA
    have hLB : lB.length ≤ 1099511627776 := Nat.le_trans (len_le_pow pB cb.length (by rw [eB]; exact Nat.lt_of_lt_of_le hnB0 (Nat.pow_le_pow_left (by omega) _))) hlB
    have hPr := product_any aA (some ⟨gx, 0, none⟩) cA cx lA lx wB hcA hlx (by omega) (by omega) (rA.keep hkB) (hrx.keep hk2) mA hmx
    have HF : Hid (val lA * val lx + val lB = numv cs) := by
      show _ = _
      rw [eA, eB, hvx, HP.out]; exact HV.out
    clear eA eB hvx hnA0 hnB0 hnA hnB hnA' hnB' hJ1 hJ2 hs1 hs2 hs3
    go_simp
    go_wp2_with fail
    refine hPr.mono ?_
    rintro e wP ⟨vP, rfl, hnP, hkP⟩
    obtain ⟨aP, cP, lP, rfl, hcP, rP, mP, pP, eP, -⟩ := hnP.natR.shape
    have hLP : lP.length ≤ lA.length + lx.length := len_le_pow pP _ (by
      rw [eP, Nat.pow_add]
      exact Nat.mul_lt_mul_of_lt_of_le (val_lt mA) (Nat.le_of_lt (val_lt hmx)) (Nat.pos_of_ne_zero (by simp)))
    have hS := sum_any aP aB cP cB lP lB wP (by omega) (by omega) rP (rB.keep hkP) mP mB
    rw [eP, HF.out] at hS
    clear hPr eP
    go_wp2_with fail
    refine hS.mono ?_
    rintro e wS ⟨vS, rfl, hnS, hkS⟩
    have hnS' := hnS
    obtain ⟨aS, cS, lS, rfl, -⟩ := hnS.shape
    go_wp2_with fail
    go_ret
    exact ⟨_, rfl, hnS'.mono (hk2.trans hkP).le, (hk2.trans hkP).trans hkS⟩
theorem joined_any : ∀ k, k ≤ 32 → JoinedSaid k
  | 0, _ => fun av c cs w _ _ hcs hl => joined_zero av c cs w hcs (by omega)
  | k + 1, h => joined_step k (by omega) (joined_any k (by omega))
end Go.Proofs.YtpdjpjkieafnbaaGreatDoor.Li
set_option linter.unusedVariables false
set_option linter.unusedSimpArgs false
namespace Go.Proofs.YtpdjpjkieafnbaaGreatDoor.Li
open Go.RowKit Lb
set_option maxRecDepth 100000 in
set_option maxHeartbeats 400000 in
theorem Read_any (cs : List Nat) (w : World) (hcs : ∀ x ∈ cs, 48 ≤ x ∧ x < 58) (h0 : cs ≠ []) (hl : cs.length ≤ 1099511627776) :
    Calls Tryz.prog 38 #[.string (S8 cs)] w fun e w' => ∃ v, e = .returned (.tuple #[v, .int .i64 0, .int .i64 0]) ∧ NatR w.heap.size w' v (numv cs) ∧ Keep w w' := by
  have hsz := S8_size cs
  have hpos : 0 < cs.length := List.length_pos_iff.2 h0
  have hne : (S8 cs).toList.isEmpty = false := by
    rw [ByteArray.toList_eq]
    simp [S8]
    exact h0
  go_enter Tryz.func38, Tryz.ntmps38
  go_wp2_with fail
  have hit0 : (w.iter (S8 cs) 0).heap[w.heap.size]? = some (.stringIter (S8 cs) 0) := World.iter_heap w _ 0
  have hk0 : Keep w (w.iter (S8 cs) 0) := (Keep.refl w).alloc _
  generalize w.iter (S8 cs) 0 = w2 at hit0 hk0 ⊢
  go_loopw [] (fun wr => ∃ k : Nat, k ≤ cs.length ∧ wr.heap[w.heap.size]? = some (.stringIter (S8 cs) k) ∧ Keep w wr) (fun wr => cs.length - wr.iterPos w.heap.size)
  case atStart => exact ⟨0, by omega, hit0, hk0⟩
  case round =>
    obtain ⟨k, hk, hit, hkp⟩ := hrel
    by_cases hkl : k < cs.length
    · obtain ⟨x, hx⟩ : ∃ x, cs.getD k 0 = x := ⟨_, rfl⟩
      have hxm : x ∈ cs := by rw [← hx]; simp [List.getD, hkl]
      obtain ⟨hx1, hx2⟩ := hcs x hxm
      have hks : k < (S8 cs).size := by rw [hsz]; exact hkl
      have hb : ((S8 cs)[k]'hks).toNat = x := by rw [S8_get cs k hks (by omega)]; exact hx
      have hnx := fun ty => Lib.run_next_ascii_at (P := Tryz.prog) wr w.heap.size (S8 cs) k ty hit hks (by omega)
      rw [hb] at hnx
      have hit1 := Lib.iterAt_heap wr w.heap.size (S8 cs) k (k + 1) hit
      have hkp1 : Keep w (wr.iterAt w.heap.size (S8 cs) (k + 1)) := iterAt_keep hkp (by omega) _ _
      have Hit := hit
      have hd1 : decide ((x : Int) < 48) = false := by simp; omega
      clear hb hx hxm hit hkp hks
      generalize wr.iterAt w.heap.size (S8 cs) (k + 1) = w3 at hnx hit1 hkp1
      go_wp2_with fail
      go_roundw
      case rel => exact ⟨k + 1, by omega, hit1, hkp1⟩
      case measure => rw [iterPos_of hit1, iterPos_of Hit]; omega
    · have hnx := fun ty => Lib.run_next_end_at (P := Tryz.prog) wr w.heap.size (S8 cs) k ty hit (by rw [hsz]; omega)
      have hP := powersFor_any cs.length wr hl
      go_wp2_with fail
      refine hP.mono ?_
      rintro e w4 ⟨v4, vs4, rfl, ho4, hp4, hn4, hl4, hk4⟩
      obtain ⟨a4, c4, rfl, hc4, -⟩ := ho4.shape
      have hJ := joined_any vs4.length hl4 a4 c4 cs w4 hc4 (Pows.pw ho4 hp4) hcs hl
      go_wp2_with fail
      refine hJ.mono ?_
      rintro e w5 ⟨v, rfl, hn, hk5⟩
      obtain ⟨a, c, l, rfl, -⟩ := hn.shape
      go_wp2_with fail
      go_ret3
      exact ⟨_, rfl, hn.mono (hkp.trans hk4).le, (hkp.trans hk4).trans hk5⟩
end Go.Proofs.YtpdjpjkieafnbaaGreatDoor.Li
