import Derived.Test.YtagfkmbljkglpaaProg
import Derived.Test.YtagfkmbljkglpaaLD1
import Derived.WalkKit
import Derived.WalkSpells
import Derived.WalkLawsBesides
import Derived.Laws.CopyOwn
import Derived.Deep.Draws
import Derived.Deep.QuietTactic
import Derived.BigQuiet
import Derived.Laws.MathBits
import Derived.Shelf.Small.Bits
import Derived.Shelf.Strconv.Itoa0
import Derived.Shelf.Bits.Mul64
import Derived.Laws.BytesArg
import Derived.Lib.OthersKept
import Derived.Deep.RegionWith
set_option linter.unusedVariables false
set_option linter.unusedSimpArgs false
namespace Go.Proofs.Ytagfkmbljkglpaa
open Go.RowKit Lb
set_option maxRecDepth 100000 in
set_option maxHeartbeats 800000 in
theorem addTimes_any (g o : Nat) (a : Option Addr) (ca c f : Nat) (r la : List Nat) (w : World) (hrl : r.length ≤ 70368744177664) (hrow : Row w g r) (hra : Rd w a la) (hoff : Off g a la) (hm : Lim r) (hma : Lim la) (hf : f < 4294967296)
    (hfit : o + la.length ≤ r.length) :
    Calls Try.prog 43 #[.slice (some ⟨g, o, none⟩) la.length c, .slice a la.length ca, .int .u32 (f : Nat)] w fun e w' => ∃ (t : Nat) (r' : List Nat), e = .returned (.int .u32 (t : Nat)) ∧ t < 4294967296 ∧ Row w' g r' ∧ r'.length = r.length ∧ Lim r' ∧ r'.drop (o + la.length) = r.drop (o + la.length) ∧ val r' + t * 4294967296 ^ (o + la.length) = val r + 4294967296 ^ o * (f * val la) ∧ Mut g w w' := by
  go_enter Try.func43, Try.ntmps43
  go_wp2_with fail
  go_loopw [7, 11] (fun c i wr => ∃ (k t : Nat) (rk : List Nat), k ≤ la.length ∧ t < 4294967296 ∧ i = .int .i64 k ∧ c = .int .u64 t ∧ Row wr g rk ∧ Hid (rk.length = r.length) ∧ Lim rk ∧ Hid (rk.drop (o + k) = r.drop (o + k)) ∧ Hid (val rk + t * 4294967296 ^ (o + k) = val r + 4294967296 ^ o * (f * val (la.take k))) ∧ Mut g w wr) (fun _ i _ => la.length - (intOf i).toNat)
  case atStart => exact ⟨0, 0, r, by omega, by omega, rfl, rfl, hrow, rfl, hm, rfl, by show _ = _; simp [val], Mut.refl _ _⟩
  case round =>
    obtain ⟨k, t, rk, hk, ht, rfl, rfl, hrk, hlen, hmk, hdr, hv, hmut⟩ := hrel
    by_cases hkl : k < la.length
    · obtain ⟨b1, o1, rfl, hc1⟩ := (hra.mut hmut hoff) k hkl
      have hc2 := hrk.cell (o + k) (by rw [hlen.out]; omega)
      have hfz := hrk.frozen (o + k)
      obtain ⟨x, hx⟩ : ∃ x, rk.getD (o + k) 0 = x := ⟨_, rfl⟩
      obtain ⟨y, hy⟩ : ∃ y, la.getD k 0 = y := ⟨_, rfl⟩
      have hxl : x < 4294967296 := hx ▸ Lim_getD hmk _
      have hyl : y < 4294967296 := hy ▸ Lim_getD hma _
      rw [hx] at hc2
      rw [hy] at hc1
      have Hx : Hid (rk.getD (o + k) 0 = x) := hx; clear hx
      have Hy : Hid (la.getD k 0 = y) := hy; clear hy
      have hp := prodB y f hyl hf
      have hpi : (y : Int) * (f : Int) ≤ 18446744065119617025 := by rw [← Int.natCast_mul]; omega
      have hpi0 : 0 ≤ (y : Int) * (f : Int) := by rw [← Int.natCast_mul]; omega
      go_wp2
      go_quiet (fail)
      have hmut1 : Mut g w (wr.drewN nq) := hmut.drewN nq
      have hrk1 : Row (wr.drewN nq) g rk := hrk
      have hc2' : (wr.drewN nq).cell? _ = _ := hc2
      have hfz' : (wr.drewN nq).frozen? _ = _ := hfz
      clear hc1 hc2 hfz hmut hrk
      generalize wr.drewN nq = w1 at hmut1 hrk1 hc2' hfz' ⊢
      go_wp2
      go_roundw
      case rel =>
        refine ⟨k + 1, (t + (x + y * f)) / 4294967296, rk.set (o + k) ((t + (x + y * f)) % 4294967296), by omega, by omega, by go_num, by simp, ?_, ?_, Lim_set hmk _ _ (by omega), ?_, ?_, hmut1.setCell _ _⟩
        · have h1 := hrk1.set (o + k) ((t + (x + y * f)) % 4294967296); simpa using h1
        · show _ = _
          rw [List.length_set]; exact hlen.out
        · show _ = _
          have h1 : rk.drop (o + (k + 1)) = r.drop (o + (k + 1)) := by
            rw [← Nat.add_assoc, ← List.drop_drop, hdr.out, List.drop_drop]
          rw [List.drop_set_of_lt (by omega)]
          exact h1
        · show _ = _
          have h1 := addStep rk (o + k) t x (y * f) _ (by rw [hlen.out]; omega) Hx.out hv.out
          rw [show o + (k + 1) = o + k + 1 from rfl, h1, val_take_succ, Hy.out, Nat.pow_add]
          grind
      case measure => simp [intOf]; omega
    · have hke : k = la.length := by omega
      subst hke
      rw [List.take_of_length_le (Nat.le_refl _)] at hv
      go_wp2
      go_ret
      exact ⟨t, rk, ret_int (by omega), ht, hrk, hlen.out, hmk, hdr.out, hv.out, hmut⟩
/-- A natural without needless limbs at the head of a block of the call's own, which is all limbs. -/
def NatS (B : Nat) (w : World) (v : Value) (n : Nat) : Prop := ∃ g r l, v = .slice (some ⟨g, 0, none⟩) l.length r.length ∧ B ≤ g ∧ Row w g r ∧ l.length ≤ r.length ∧ r.take l.length = l ∧ r.length ≤ 70368744177664 ∧ Lim r ∧ Lim l ∧ Nrm l ∧ val l = n
theorem NatS.mono {B B' : Nat} {w : World} {v : Value} {n : Nat} (h : NatS B w v n) (hB : B' ≤ B) : NatS B' w v n := by
  obtain ⟨g, r, l, h1, h2, h3⟩ := h
  exact ⟨g, r, l, h1, by omega, h3⟩
theorem NatS.keep {B : Nat} {w w' : World} {v : Value} {n : Nat} (h : NatS B w v n) (k : Keep w w') : NatS B w' v n := by
  obtain ⟨g, r, l, h1, h2, h3, h4⟩ := h
  exact ⟨g, r, l, h1, h2, h3.keep k, h4⟩
set_option maxRecDepth 100000 in
theorem slice32 (wx : World) (b o n c k m : Nat) (hk : k + m ≤ c) (hc : ¬ c = k) : (Instr.slice 22 (.slice (some ⟨b, o, none⟩) n c) (some (.int .i64 (k : Int))) (some (.int .i64 ((k : Int) + (m : Int)))) none).run Try.prog wx = .ok (.slice (some ⟨b, o + k, none⟩) m (c - k)) wx := by
  rw [run_slice_lh (P := Try.prog) wx 22 (some ⟨b, o, none⟩) n c Try.underlying22 .i64 .i64 k (k + m) (by omega) (by omega) (by omega)]
  have e1 : ((k : Int) + (m : Int)).toNat = k + m := by omega
  have e2 : (sizeOf (Try.prog.elem 22)).run Try.prog wx = .ok 1 wx := by kernel_rfl
  rw [e2]
  simp [Result.andThen, sliced, hc, e1, Addr.add_lit]
end Go.Proofs.Ytagfkmbljkglpaa
