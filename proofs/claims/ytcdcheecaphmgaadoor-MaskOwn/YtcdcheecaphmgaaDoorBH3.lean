import Derived.Test.YtcdcheecaphmgaaDoorProg
import Derived.Test.YtcdcheecaphmgaaDoorBF1
import Derived.WalkKit
import Derived.WalkSpells
import Derived.WalkLawsBesides
import Derived.Laws.CopyOwn
import Derived.Deep.Draws
import Derived.Deep.QuietTactic
import Derived.BigQuiet
import Derived.Deep.RegionWith
import Derived.Deep.RegionHeld3
import Derived.Shelf.Strconv.Itoa0
import Derived.Shelf.Spec.TrailingZeros
import Derived.RangeFuncBox
import Derived.RangeFuncLeaves
import Derived.Shelf.Abstract
import Derived.OwnWalkIn
import Derived.TacticsInMore
import Derived.LoopNIn
import Derived.LoopIn
import Derived.RangeFuncCalls
import Derived.Laws.BytesArg
set_option linter.unusedVariables false
set_option linter.unusedSimpArgs false
namespace Go.Proofs.YtcdcheecaphmgaaDoor.Bi
open Go.RowKit
/-- A set that is made, or refused: what the words are. -/
def Ok3 (bad : Prop) (n : Nat) (f : Nat → Bool) (l : List Nat) : Prop := (bad ∧ l = []) ∨ (¬ bad ∧ n ≤ 1048576 ∧ mkl n f l)
def SetA (w w' : World) (e : Ending) (bad : Prop) (E : Int) (n : Nat) (f : Nat → Bool) : Prop :=
  ∃ a c l, e = .returned (.tuple #[.slice a l.length c, .int .i64 E]) ∧ l.length ≤ c ∧ Rd w' a l ∧ Ok3 bad n f l ∧ Keep w w'
theorem SetA.ok {w w' : World} {bad : Prop} {n : Nat} {f : Nat → Bool} {l : List Nat} (hb : ¬ bad) (hn : n ≤ 1048576) (h1 : Row w' w.heap.size l) (h2 : mkl n f l) (k : Keep w w') (E : Int) (hE : E = 0) :
    SetA w w' (.returned (.tuple #[.slice (some ⟨w.heap.size, 0, none⟩) l.length l.length, .int .i64 0])) bad E n f := by
  subst hE
  refine ⟨_, _, l, rfl, Nat.le_refl _, ?_, .inr ⟨hb, hn, h2⟩, k⟩
  have := h1.rd 0 l.length (by omega)
  rw [List.drop_zero, List.take_of_length_le (Nat.le_refl _)] at this
  exact this
end Go.Proofs.YtcdcheecaphmgaaDoor.Bi
set_option linter.unusedVariables false
set_option linter.unusedSimpArgs false
namespace Go.Proofs.YtcdcheecaphmgaaDoor.Bi
open Go.RowKit
/-- Whole numbers as cells. -/
def UI (l : List Nat) : List Value := l.map (fun x => Value.int .i64 (x : Nat))
theorem UI_get (l : List Nat) (j : Nat) (h : j < l.length) : (UI l)[j]? = some (.int .i64 (l.getD j 0 : Nat)) := by simp [UI, List.getD, h]
def RdI (w : World) (a : Option Addr) (l : List Nat) : Prop :=
  ∀ j, j < l.length → ∃ b o, a = some ⟨b, o, none⟩ ∧ w.cell? ⟨b, o + j, none⟩ = some (.int .i64 (l.getD j 0 : Nat))
theorem RdI.keep {w w' : World} {a : Option Addr} {l : List Nat} (h : RdI w a l) (k : Keep w w') : RdI w' a l := by
  intro j hj
  obtain ⟨b, o, e, hc⟩ := h j hj
  exact ⟨b, o, e, k.cell hc⟩
theorem i3 : (Tryd.prog.info? 3).map (fun i => (i.zero, i.size, i.bytes)) = some (some (.int .i64 0), 1, 8) := by kernel_rfl
/-- A slice that owns its limbs (made by append). -/
def OwnI (B : Nat) (w : World) (v : Value) (l : List Nat) : Prop := w.ownsRow B 3 1 v l.length (UI l)
theorem OwnI.keep {B : Nat} {w w' : World} {v : Value} {l : List Nat} (h : OwnI B w v l) (k : Keep w w') : OwnI B w' v l := by
  refine ⟨h.1, ?_⟩
  rcases h.2 with h2 | ⟨g, cap, cur, hv, hg, hh, r⟩
  · exact .inl h2
  · exact .inr ⟨g, cap, cur, hv, hg, by rw [k.block g (Array.getElem?_eq_some_iff.1 hh).1]; exact hh, r⟩
theorem OwnI.mono {B B' : Nat} {w : World} {v : Value} {l : List Nat} (h : OwnI B w v l) (hB : B' ≤ B) : OwnI B' w v l := by
  refine ⟨h.1, ?_⟩
  rcases h.2 with h2 | ⟨g, cap, cur, hv, hg, r⟩
  · exact .inl h2
  · exact .inr ⟨g, cap, cur, hv, by omega, r⟩
theorem OwnI.shape {B : Nat} {w : World} {v : Value} {l : List Nat} (h : OwnI B w v l) : ∃ a c, v = .slice a l.length c ∧ l.length ≤ c ∧ RdI w a l := by
  rcases h.2 with ⟨h1, h2⟩ | ⟨g, cap, cur, hv, hg, hh, h1, h2, h3, h4⟩
  · exact ⟨none, 0, by rw [h1, h2], by omega, fun j hj => by omega⟩
  · refine ⟨some ⟨g, 0, none⟩, cap, hv, h1, ?_⟩
    intro j hj
    refine ⟨g, 0, rfl, ?_⟩
    rw [Nat.zero_add, cell_of_row w g j cur 3 (0, 0) hh, ← UI_get l j hj, ← h4]
    simp [hj]
/-- out = append(out, x). -/
theorem wpList_appI {w0 wr : World} {ops : Array Oper} {rest : List Oper} {o : Oper} {a : Act} {Q : Exit → Act → World → Prop} (hgd : o.guard = none) (s x : Operand)
    (ho : o.op = .call { callee := .builtin .append, args := #[s, x], argTypes := #[47, 47] }) (l : List Nat) (v : Value) (hs : a.eval s = v) (Y : Int) (y : Nat) (hY : Y = (y : Int))
    (hx : a.eval x = .slice (some ⟨wr.heap.size, 0, none⟩) 1 1) (hown : OwnI w0.heap.size wr v l) (hk : Keep w0 wr) (hlen : l.length < 17592186044416)
    (hK : ∀ v' w1, OwnI w0.heap.size w1 v' (l ++ [y]) → Keep w0 w1 → wpList Tryd.prog ops Q rest (a.put o.dst v') w1) :
    wpList Tryd.prog ops Q (o :: rest) a (wr.alloc (.cells #[.int .i64 Y] 3)) := by
  obtain ⟨i0, hi, hz0, hz1, hz2⟩ := info_parts i3
  subst hY
  refine wpList_append_own _ hgd s x 47 ho w0.heap.size 3 i0 (.int .i64 0) 1 8 Tryd.underlying47 hi hz0 hz1 hz2 rfl (by decide) v _ _ hs (hown.alloc _) ⟨wr.heap.size, 0, none⟩ 1 1 [.int .i64 (y : Int)] hx rfl ?_ ?_ ?_ ?_ ?_ ?_
  · intro j u hj
    match j, hj with
    | 0, hj => simp at hj; subst hj; simp [Addr.add]
  · intro u hu; simp at hu; subst hu; rfl
  · simp only [maxLen]; omega
  · omega
  · have := hk.le; simp; omega
  · intro v' w1 h1 h2 _
    refine hK v' w1 ?_ ?_
    · unfold OwnI; simpa [UI] using h1
    · refine Below.grown (hk.alloc _) h2 (by have := hk.le; simp; omega) ?_
      intro k hk'
      have := hown.lt k hk'
      exact this.1
theorem OwnI.nil (B : Nat) (w : World) : OwnI B w (.slice none 0 0) [] := ⟨rfl, .inl ⟨rfl, rfl⟩⟩
end Go.Proofs.YtcdcheecaphmgaaDoor.Bi
set_option linter.unusedVariables false
set_option linter.unusedSimpArgs false
namespace Go.Proofs.YtcdcheecaphmgaaDoor.Bi
open Go.RowKit
set_option maxRecDepth 100000 in
theorem rHas_any (a : Option Addr) (c : Nat) (l : List Nat) (i : Int) (w : World) (hl : l.length ≤ 17592186044416) (hi : i ≤ 9223372036854775807) (hr : Rd w a l) (hw : W64 l) :
    Calls Tryd.prog 83 #[.slice a l.length c, .int .i64 i] w fun e w' => e = .returned (.bool (hasI l i)) ∧ w' = w := by
  by_cases h0 : i < 0
  · have Hv : Hid (hasI l i = false) := by show _ = _; unfold hasI; rw [decide_eq_false (by omega), Bool.false_and]
    go_enter Tryd.func83, Tryd.ntmps83
    go_wp2_with fail
    go_ret
    exact ⟨ret_bool (by first | exact Hv.out.symm | (rw [Hv.out]; simp; omega)), rfl⟩
  · obtain ⟨n, rfl⟩ := Int.eq_ofNat_of_zero_le (show 0 ≤ i by omega)
    obtain ⟨q, hq⟩ : ∃ q, n / 64 = q := ⟨_, rfl⟩
    obtain ⟨r, hrr⟩ : ∃ r, n % 64 = r := ⟨_, rfl⟩
    have hqi : (n : Int) / 64 = (q : Int) := by omega
    have hri : (n : Int) % 64 = (r : Int) := by omega
    have hr64 : r < 64 := by omega
    have Hv : Hid (hasI l (n : Int) = (l.getD q 0).testBit r) := by
      show _ = _
      unfold hasI hs
      rw [Int.toNat_natCast, hq, hrr, decide_eq_true (by omega), Bool.true_and]
    by_cases hql : q < l.length
    · obtain ⟨b, o, rfl, hc⟩ := hr q hql
      have hxl := W64_getD hw q
      generalize l.getD q 0 = x at hc hxl Hv
      have h1 := and1 x r hxl
      clear hq hrr h0
      go_enter Tryd.func83, Tryd.ntmps83
      go_wp2_with fail
      go_ret
      exact ⟨ret_bool (by first | exact (h1.trans Hv.out.symm) | exact Hv.out.symm), rfl⟩
    · have hz : l.getD q 0 = 0 := by simp [List.getD, List.getElem?_eq_none (Nat.le_of_not_lt hql)]
      have Hv2 : Hid (hasI l (n : Int) = false) := by show _ = _; rw [Hv.out, hz]; simp
      clear hq hrr h0 Hv hz
      go_enter Tryd.func83, Tryd.ntmps83
      go_wp2_with fail
      go_ret
      exact ⟨ret_bool Hv2.out.symm, rfl⟩
/-- The bits that are in, below m. -/
def upB (l : List Nat) (m : Nat) : List Nat := (List.range m).filter (hs l)
theorem upB_succ (l : List Nat) (m : Nat) : upB l (m + 1) = if hs l m then upB l m ++ [m] else upB l m := by
  unfold upB
  rw [List.range_succ, List.filter_append]
  cases h : hs l m <;> simp [h]
theorem upB_length (l : List Nat) (m : Nat) : (upB l m).length = cn l m := by unfold upB cn; rw [List.countP_eq_length_filter]
theorem upB_skip (l : List Nat) (i : Nat) (h : l.getD (i / 64) 0 = 0) : ∀ d, i + d ≤ 64 * (i / 64) + 64 → upB l (i + d) = upB l i
  | 0, _ => rfl
  | d + 1, hd => by
    rw [← Nat.add_assoc, upB_succ, upB_skip l i h d (by omega)]
    have : hs l (i + d) = false := by unfold hs; rw [show (i + d) / 64 = i / 64 by omega, h]; simp
    rw [this]; rfl
set_option maxRecDepth 100000 in
set_option maxHeartbeats 400000 in
theorem rAll_any (a : Option Addr) (c : Nat) (l : List Nat) (w : World) (hl : l.length ≤ 1048576) (hr : Rd w a l) (hw : W64 l) :
    Calls Tryd.prog 74 #[.slice a l.length c] w fun e w' => ∃ v, e = .returned v ∧ OwnI w.heap.size w' v (allB l) ∧ Keep w w' := by
  go_enter Tryd.func74, Tryd.ntmps74
  go_wp2_with fail
  go_loopw [3, 4] (fun v i wr => ∃ k : Nat, k ≤ 64 * l.length ∧ i = .int .i64 k ∧ OwnI w.heap.size wr v (upB l k) ∧ Keep w wr) (fun _ i _ => 64 * l.length - (intOf i).toNat)
  case atStart => exact ⟨0, by omega, rfl, OwnI.nil _ _, Keep.refl _⟩
  case round =>
    obtain ⟨k, hkk, rfl, hown, hkp⟩ := hrel
    obtain ⟨av, cv, rfl, hcv, -⟩ := hown.shape
    have hbd0 : Hid ((upB l k).length ≤ k) := by show _ ≤ _; rw [upB_length]; exact cn_le l k
    by_cases hkl : k < 64 * l.length
    · obtain ⟨q, hq⟩ : ∃ q, k / 64 = q := ⟨_, rfl⟩
      obtain ⟨r, hrr⟩ : ∃ r, k % 64 = r := ⟨_, rfl⟩
      have hqi : (k : Int) / 64 = (q : Int) := by omega
      have hri : (k : Int) % 64 = (r : Int) := by omega
      have hr64 : r < 64 := by omega
      have hql : q < l.length := by omega
      obtain ⟨b, o, rfl, hc⟩ := (hr.keep hkp) q hql
      have hxl := W64_getD hw q
      have hsucc := upB_succ l k
      by_cases hz : l.getD q 0 = 0
      · rw [hz] at hc
        have Hsk : Hid (upB l (64 * q + 64) = upB l k) := by
          show _ = _
          have := upB_skip l k (by rw [hq]; exact hz) (64 * q + 64 - k) (by omega)
          rw [show k + (64 * q + 64 - k) = 64 * q + 64 by omega] at this
          exact this
        have Hkq : Hid (k = 64 * q + r) := by show _ = _; omega
        clear hsucc hz hq hrr
        generalize upB l k = z at *
        go_wp2_with fail
        go_roundw
        case rel => exact ⟨64 * q + 64, by omega, by have := Hkq.out; first | go_num | (congr 1; omega), by rw [Hsk.out]; exact hown, hkp⟩
        case measure => have := Hkq.out; simp [intOf]; omega
      · have hz0 : (((l.getD q 0 : Nat) : Int) == 0) = false := by rw [beq_eq_false_iff_ne]; omega
        have hH := rHas_any (some ⟨b, o, none⟩) c l (k : Int) wr (by omega) (by omega) (hr.keep hkp) hw
        rw [show hasI l (k : Int) = hs l k by unfold hasI; simp] at hH
        clear hz hq hrr
        cases hb : hs l k
        · rw [hb] at hH hsucc
          have Hsu : Hid (upB l (k + 1) = upB l k) := hsucc
          clear hsucc hb
          generalize upB l k = z at *
          generalize l.getD q 0 = x at *
          go_wp2_with (go_at_call 83; refine hH.mono ?_; rintro e w' ⟨rfl, rfl⟩)
          go_roundw
          case rel => exact ⟨k + 1, by omega, by go_num, by rw [Hsu.out]; exact hown, hkp⟩
          case measure => simp [intOf]; omega
        · rw [hb] at hH hsucc
          have Hsu : Hid (upB l (k + 1) = upB l k ++ [k]) := hsucc
          clear hsucc hb
          have hbd : (upB l k).length < 17592186044416 := by have := hbd0.out; omega
          generalize upB l k = z at *
          generalize l.getD q 0 = x at *
          go_wp2_with first
            | (go_at_call 83; refine hH.mono ?_; rintro e w' ⟨rfl, rfl⟩)
            | (at_builtin; refine wpList_appI rfl _ _ rfl z _ rfl _ k rfl rfl hown hkp hbd ?_; intro v' w3 hown' hk')
          obtain ⟨av', cv', rfl, hcv', -⟩ := hown'.shape
          go_roundw
          case rel => exact ⟨k + 1, by omega, by go_num, by rw [Hsu.out]; exact hown', hk'⟩
          case measure => simp [intOf]; omega
    · obtain rfl : k = 64 * l.length := by omega
      go_wp2_with fail
      go_ret
      exact ⟨_, rfl, hown, hkp⟩
end Go.Proofs.YtcdcheecaphmgaaDoor.Bi
set_option linter.unusedVariables false
set_option linter.unusedSimpArgs false
namespace Go.Proofs.YtcdcheecaphmgaaDoor.Bi
open Go.RowKit
theorem selI_get {l : List Nat} {k : Nat} (h : k < (allB l).length) : selI l k = ((allB l).getD k 0 : Nat) := by
  unfold selI
  rw [List.getElem?_eq_getElem h]
  simp [List.getD, h]
theorem selI_past {l : List Nat} {k : Nat} (h : (allB l).length ≤ k) : selI l k = -1 := selI_none (by rw [← allB_length]; exact h)
theorem rLowest_any (a : Option Addr) (c : Nat) (l : List Nat) (w : World) (hl : l.length ≤ 1048576) (hr : Rd w a l) (hw : W64 l) :
    Calls Tryd.prog 52 #[.slice a l.length c] w fun e w' => e = .returned (.int .i64 (selI l 0)) ∧ Keep w w' := by
  have hA := rAll_any a c l w hl hr hw
  have h1 := fun h => selI_get (l := l) (k := 0) h
  have h2 := fun h => selI_past (l := l) (k := 0) h
  generalize selI l 0 = s at *
  generalize allB l = z at *
  by_cases h0 : z.length = 0
  · obtain rfl := List.length_eq_zero_iff.1 h0
    obtain rfl := h2 (Nat.zero_le _)
    clear h1 h2 h0
    go_enter Tryd.func52, Tryd.ntmps52
    go_wp2_with fail
    refine hA.mono ?_
    rintro e w1 ⟨v, rfl, o1, k1⟩
    obtain ⟨av, cv, rfl, hcv, -⟩ := o1.shape
    go_wp2_with fail
    go_ret
    exact ⟨rfl, k1⟩
  · obtain rfl := h1 (by omega)
    clear h1 h2
    go_enter Tryd.func52, Tryd.ntmps52
    go_wp2_with fail
    refine hA.mono ?_
    rintro e w1 ⟨v, rfl, o1, k1⟩
    obtain ⟨av, cv, rfl, hcv, rd⟩ := o1.shape
    obtain ⟨b, o, rfl, hc⟩ := rd 0 (by omega)
    have hne : (((z.length : Nat) : Int) == 0) = false := by rw [beq_eq_false_iff_ne]; omega
    have hp : 0 < z.length := by omega
    obtain ⟨x, hx⟩ : ∃ x, z.getD 0 0 = x := ⟨_, rfl⟩
    rw [hx] at hc
    rw [Nat.add_zero] at hc
    have Hx : Hid (z.getD 0 0 = x) := hx
    clear hx h0
    go_wp2_with fail
    go_ret
    exact ⟨ret_int (by rw [Hx.out]), k1⟩
end Go.Proofs.YtcdcheecaphmgaaDoor.Bi
