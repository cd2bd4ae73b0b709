import Derived.Test.YtpdjpjkieafnbaaDoorProg
import Derived.Test.YtpdjpjkieafnbaaDoorLD2
import Derived.WalkKit
import Derived.WalkSpells
import Derived.WalkLawsBesides
import Derived.Laws.CopyOwn
import Derived.Deep.Draws
import Derived.Deep.QuietTactic
import Derived.BigQuiet
import Derived.Laws.MathBits
import Derived.Laws.BytesArg
import Derived.Lib.OthersKept
import Derived.Deep.RegionWith
set_option linter.unusedVariables false
set_option linter.unusedSimpArgs false
namespace Go.Proofs.YtpdjpjkieafnbaaDoor.Li
open Go.RowKit Lb
set_option maxRecDepth 100000 in
set_option maxHeartbeats 800000 in
theorem addTimes_any (g o : Nat) (a : Option Addr) (ca c f : Nat) (r la : List Nat) (w : World) (hrl : r.length ≤ 70368744177664) (hrow : Row w g r) (hra : Rd w a la) (hoff : Off g a la) (hm : Lim r) (hma : Lim la) (hf : f < 4294967296)
    (hfit : o + la.length ≤ r.length) :
    Calls Tryd.prog 69 #[.slice (some ⟨g, o, none⟩) la.length c, .slice a la.length ca, .int .u32 (f : Nat)] w fun e w' => ∃ (t : Nat) (r' : List Nat), e = .returned (.int .u32 (t : Nat)) ∧ t < 4294967296 ∧ Row w' g r' ∧ r'.length = r.length ∧ Lim r' ∧ r'.drop (o + la.length) = r.drop (o + la.length) ∧ val r' + t * 4294967296 ^ (o + la.length) = val r + 4294967296 ^ o * (f * val la) ∧ Mut g w w' := by
  go_enter Tryd.func69, Tryd.ntmps69
  go_wp2_with fail
  go_loopw [7, 11] (fun c i wr => ∃ (k t : Nat) (rk : List Nat), k ≤ la.length ∧ t < 4294967296 ∧ i = .int .i64 k ∧ c = .int .u64 t ∧ Row wr g rk ∧ Hid (rk.length = r.length) ∧ Lim rk ∧ Hid (rk.drop (o + k) = r.drop (o + k)) ∧ Hid (val rk + t * 4294967296 ^ (o + k) = val r + 4294967296 ^ o * (f * val (la.take k))) ∧ Mut g w wr) (fun _ i _ => la.length - (intOf i).toNat)
  case atStart => exact ⟨0, 0, r, by omega, by omega, rfl, rfl, hrow, rfl, hm, rfl, by show _ = _; simp [val], Mut.refl _ _⟩
  case round =>
    obtain ⟨k, t, rk, hk, ht, rfl, rfl, hrk, hlen, hmk, hdr, hv, hmut⟩ := hrel
    by_cases hkl : k < la.length
    · obtain ⟨b1, o1, rfl, hc1⟩ := (hra.mut hmut hoff) k hkl
      have hc2 := hrk.cell (o + k) (by rw [hlen.out]; omega)
      have hfz := hrk.frozen (o + k)
      obtain ⟨x, hx⟩ : ∃ x, rk.getD (o + k) 0 = x := ⟨_, rfl⟩
      obtain ⟨y, hy⟩ : ∃ y, la.getD k 0 = y := ⟨_, rfl⟩
      have hxl : x < 4294967296 := hx ▸ Lim_getD hmk _
      have hyl : y < 4294967296 := hy ▸ Lim_getD hma _
      rw [hx] at hc2
      rw [hy] at hc1
      have Hx : Hid (rk.getD (o + k) 0 = x) := hx; clear hx
      have Hy : Hid (la.getD k 0 = y) := hy; clear hy
      have hp := prodB y f hyl hf
      have hpi : (y : Int) * (f : Int) ≤ 18446744065119617025 := by rw [← Int.natCast_mul]; omega
      have hpi0 : 0 ≤ (y : Int) * (f : Int) := by rw [← Int.natCast_mul]; omega
      go_wp2
      go_quiet (fail)
      have hmut1 : Mut g w (wr.drewN nq) := hmut.drewN nq
      have hrk1 : Row (wr.drewN nq) g rk := hrk
      have hc2' : (wr.drewN nq).cell? _ = _ := hc2
      have hfz' : (wr.drewN nq).frozen? _ = _ := hfz
      clear hc1 hc2 hfz hmut hrk
      generalize wr.drewN nq = w1 at hmut1 hrk1 hc2' hfz' ⊢
      go_wp2
      go_roundw
      case rel =>
        refine ⟨k + 1, (t + (x + y * f)) / 4294967296, rk.set (o + k) ((t + (x + y * f)) % 4294967296), by omega, by omega, by go_num, by simp, ?_, ?_, Lim_set hmk _ _ (by omega), ?_, ?_, hmut1.setCell _ _⟩
        · have h1 := hrk1.set (o + k) ((t + (x + y * f)) % 4294967296); simpa using h1
        · show _ = _
          rw [List.length_set]; exact hlen.out
        · show _ = _
          have h1 : rk.drop (o + (k + 1)) = r.drop (o + (k + 1)) := by
            rw [← Nat.add_assoc, ← List.drop_drop, hdr.out, List.drop_drop]
          rw [List.drop_set_of_lt (by omega)]
          exact h1
        · show _ = _
          have h1 := addStep rk (o + k) t x (y * f) _ (by rw [hlen.out]; omega) Hx.out hv.out
          rw [show o + (k + 1) = o + k + 1 from rfl, h1, val_take_succ, Hy.out, Nat.pow_add]
          grind
      case measure => simp [intOf]; omega
    · have hke : k = la.length := by omega
      subst hke
      rw [List.take_of_length_le (Nat.le_refl _)] at hv
      go_wp2
      go_ret
      exact ⟨t, rk, ret_int (by omega), ht, hrk, hlen.out, hmk, hdr.out, hv.out, hmut⟩
/-- A natural without needless limbs at the head of a block of the call's own, which is all limbs. -/
def NatS (B : Nat) (w : World) (v : Value) (n : Nat) : Prop := ∃ g r l, v = .slice (some ⟨g, 0, none⟩) l.length r.length ∧ B ≤ g ∧ Row w g r ∧ l.length ≤ r.length ∧ r.take l.length = l ∧ r.length ≤ 70368744177664 ∧ Lim r ∧ Lim l ∧ Nrm l ∧ val l = n
theorem NatS.natR {B : Nat} {w : World} {v : Value} {n : Nat} (h : NatS B w v n) : NatR B w v n := by
  obtain ⟨g, r, l, h1, h2, h3, h4, h5, h10, h6, h7, h8, h9⟩ := h
  exact ⟨l, .inr ⟨g, r, h1, h2, h3, h4, h5⟩, h7, h8, h9⟩
theorem NatS.mono {B B' : Nat} {w : World} {v : Value} {n : Nat} (h : NatS B w v n) (hB : B' ≤ B) : NatS B' w v n := by
  obtain ⟨g, r, l, h1, h2, h3⟩ := h
  exact ⟨g, r, l, h1, by omega, h3⟩
theorem NatS.keep {B : Nat} {w w' : World} {v : Value} {n : Nat} (h : NatS B w v n) (k : Keep w w') : NatS B w' v n := by
  obtain ⟨g, r, l, h1, h2, h3, h4⟩ := h
  exact ⟨g, r, l, h1, h2, h3.keep k, h4⟩
theorem NatS.of_row {B g : Nat} {w : World} {r : List Nat} (h : Row w g r) (hB : B ≤ g) (hm : Lim r) (hl : r.length ≤ 70368744177664) : NatS B w (.slice (some ⟨g, 0, none⟩) (nl r) r.length) (val r) := by
  have h1 := nl_le r
  have e : (r.take (nl r)).length = nl r := by simp; omega
  exact ⟨g, r, r.take (nl r), by rw [e], hB, h, by omega, by rw [e], hl, hm, Lim_take hm _, Nrm_take _, val_take_nl r⟩
set_option maxRecDepth 100000 in
theorem slice32 (wx : World) (b o n c k m : Nat) (hk : k + m ≤ c) (hc : ¬ c = k) : (Instr.slice 27 (.slice (some ⟨b, o, none⟩) n c) (some (.int .i64 (k : Int))) (some (.int .i64 ((k : Int) + (m : Int)))) none).run Tryd.prog wx = .ok (.slice (some ⟨b, o + k, none⟩) m (c - k)) wx := by
  rw [run_slice_lh (P := Tryd.prog) wx 27 (some ⟨b, o, none⟩) n c Tryd.underlying27 .i64 .i64 k (k + m) (by omega) (by omega) (by omega)]
  have e1 : ((k : Int) + (m : Int)).toNat = k + m := by omega
  have e2 : (sizeOf (Tryd.prog.elem 27)).run Tryd.prog wx = .ok 1 wx := by kernel_rfl
  rw [e2]
  simp [Result.andThen, sliced, hc, e1, Addr.add_lit]
set_option maxRecDepth 100000 in
set_option maxHeartbeats 800000 in
theorem byLimbs_any (a b : Option Addr) (ca cb : Nat) (la lb : List Nat) (w : World) (hla : la.length ≤ 35184372088832) (hlb : lb.length ≤ 35184372088832) (hra : Rd w a la) (hrb : Rd w b lb) (hma : Lim la) (hmb : Lim lb) :
    Calls Tryd.prog 41 #[.slice a la.length ca, .slice b lb.length cb] w fun e w' => ∃ v, e = .returned v ∧ NatS w.heap.size w' v (val la * val lb) ∧ Keep w w' := by
  obtain ⟨N, hN⟩ : ∃ N, la.length + lb.length = N := ⟨_, rfl⟩
  have hsz : N ≤ 70368744177664 := by omega
  have hNi : (la.length : Int) + (lb.length : Int) = (N : Int) := by omega
  have HN : Hid (la.length + lb.length = N) := hN
  clear hN
  go_enter Tryd.func41, Tryd.ntmps41
  go_wp2_with (at_make; refine wpList_make32 _ rfl _ _ rfl _ _ _ _ N rfl rfl rfl rfl hsz ?_; intro w1 hrow hk hsz1)
  clear hNi
  go_loopw [15] (fun i wr => ∃ (k : Nat) (rk : List Nat), k ≤ lb.length ∧ i = .int .i64 k ∧ Row wr w.heap.size rk ∧ Hid (rk.length = N) ∧ Lim rk ∧ Hid (rk.drop (k + la.length) = List.replicate (lb.length - k) 0) ∧ Hid (val rk = val la * val (lb.take k)) ∧ Keep w wr) (fun i _ => lb.length - (intOf i).toNat)
  case atStart => exact ⟨0, _, by omega, rfl, hrow, by show _ = _; simp, by intro x hx; simp at hx; omega, by show _ = _; rw [← HN.out]; simp, by show _ = _; rw [val_zeros _ (by intro j; simp [List.getD, List.getElem?_replicate]; split <;> rfl)]; simp [val], hk⟩
  case round =>
    obtain ⟨k, rk, hkk, rfl, hrk, hlen, hmk, hdr, hv, hkp⟩ := hrel
    have hla1 : k < lb.length → k + la.length < N := by have := HN.out; omega
    by_cases hkl : k < lb.length
    · obtain ⟨b1, o1, rfl, hc1⟩ := (hrb.keep hkp) k hkl
      have hlaN := hla1 hkl
      obtain ⟨y, hy⟩ : ∃ y, lb.getD k 0 = y := ⟨_, rfl⟩
      have hyl : y < 4294967296 := hy ▸ Lim_getD hmb _
      rw [hy] at hc1
      have Hy : Hid (lb.getD k 0 = y) := hy; clear hy
      have hA := fun wx (hr : Row wx w.heap.size rk) (hx : Rd wx a la) => addTimes_any w.heap.size k a ca (N - k) y rk la wx (by rw [hlen.out]; omega) hr hx (Off.of_lt hra (Nat.le_refl _)) hmk hma hyl (by rw [hlen.out]; omega)
      have hsl := fun wx => slice32 wx w.heap.size 0 N N k la.length (by omega) (by omega)
      rw [Nat.zero_add] at hsl
      have hwrap : IntKind.i64.wrap ((k : Int) + (la.length : Int)) = (k : Int) + (la.length : Int) := by rw [IntKind.wrap_i64]; omega
      have htn : ((k : Int) + (la.length : Int)).toNat = k + la.length := by omega
      have hdl : decide (0 ≤ (k : Int) + (la.length : Int)) = true := by simp; omega
      have hra1 := hra.keep hkp
      have hF : ∀ (wx : World) (r' : List Nat), Row wx w.heap.size r' → r'.length = rk.length → (∃ u : Nat, wx.cell? ⟨w.heap.size, k + la.length, none⟩ = some (.int .u32 (u : Nat))) ∧ wx.frozen? ⟨w.heap.size, k + la.length, none⟩ = false := fun wx r' h1 h2 =>
        ⟨⟨_, h1.cell (k + la.length) (by rw [h2, hlen.out]; omega)⟩, h1.frozen _⟩
      go_wp2
      go_region_with (go_at_call 69; refine (hA _ ?_ ?_).mono ?_; exact hrk; exact hra1; rintro e w3 ⟨t, r', rfl, htl, hr3, hl3, hm3, hd3, hv3, hmu3⟩; obtain ⟨⟨u, hu⟩, hfz⟩ := hF _ _ hr3 hl3)
      all_goals go_wp2
      all_goals
        refine ⟨⟨k + 1, r'.set (k + la.length) t, by omega, by go_num, hr3.set _ _, ?_, Lim_set hm3 _ _ htl, ?_, ?_, ?_⟩, by simp [intOf]; omega⟩
        · show _ = _
          rw [List.length_set, hl3]; exact hlen.out
        · show _ = _
          rw [List.drop_set_of_lt (by omega), show k + 1 + la.length = k + la.length + 1 by omega, ← List.drop_drop, hd3, hdr.out]
          simp
          omega
        · show _ = _
          have h0 : r'.getD (k + la.length) 0 = 0 := by
            have h1 : (r'.drop (k + la.length)).getD 0 0 = 0 := by rw [hd3, hdr.out]; simp [List.getD, List.getElem?_replicate]; split <;> rfl
            simpa [List.getD] using h1
          have h1 := val_set r' (k + la.length) t (by rw [hl3, hlen.out]; omega)
          rw [h0] at h1
          rw [hv.out] at hv3
          rw [val_take_succ, Hy.out]
          grind
        · exact (hkp.drew.mut hmu3 (Nat.le_refl _)).setCell (Nat.le_refl _) _
    · have hke : k = lb.length := by omega
      subst hke
      rw [List.take_of_length_le (Nat.le_refl _)] at hv
      have hT := trim_any (some ⟨w.heap.size, 0, none⟩) rk.length rk wr (Nat.le_refl _) (by rw [hlen.out]; omega) hrk.rd0
      rw [hlen.out] at hT
      go_wp2_with fail
      refine hT.mono ?_
      rintro e w3 ⟨rfl, rfl⟩
      go_wp2
      go_ret
      refine ⟨_, rfl, ?_, hkp⟩
      have h1 := NatS.of_row hrk (Nat.le_refl w.heap.size) hmk (by rw [hlen.out]; omega)
      rw [hlen.out, hv.out] at h1
      exact h1
end Go.Proofs.YtpdjpjkieafnbaaDoor.Li
