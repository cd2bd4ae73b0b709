import Derived.Test.YtgciimjcdhallaaDoorProg
import Derived.Test.YtgciimjcdhallaaDoorLLLC5
import Derived.Test.YtgciimjcdhallaaDoorLLLH2
import Derived.WalkKit
import Derived.WalkSpells
import Derived.WalkLawsBesides
import Derived.Laws.CopyOwn
import Derived.Deep.Draws
import Derived.Deep.QuietTactic
import Derived.BigQuiet
import Derived.Laws.MathBits
import Derived.Shelf.Small.Bits
import Derived.Laws.BytesArg
import Derived.Lib.OthersKept
import Derived.Deep.RegionWith
import Derived.Laws.Externs
import Derived.WalkMore
import Derived.Deep.LoopGhost
import Derived.Deep.RegionHeld3
set_option linter.unusedVariables false
set_option linter.unusedSimpArgs false
namespace Go.Proofs.YtgciimjcdhallaaDoor.Li
open Go.RowKit Lb
/-- A natural as a value, that can be read. -/
def Nv (w : World) (v : Value) (n : Nat) : Prop := ∃ a c l, v = .slice a l.length c ∧ l.length ≤ c ∧ Rd w a l ∧ Lim l ∧ Nrm l ∧ val l = n
theorem Nv.keep {w w' : World} {v : Value} {n : Nat} (h : Nv w v n) (k : Keep w w') : Nv w' v n := by
  obtain ⟨a, c, l, e, h1, h2, h3⟩ := h
  exact ⟨a, c, l, e, h1, h2.keep k, h3⟩
theorem len_of {l : List Nat} (hn : Nrm l) {k : Nat} (h : val l < 4294967296 ^ k) : l.length ≤ k := by
  by_cases e : l = []
  · subst e; simp
  · have h1 := val_ge hn e
    rcases Nat.lt_or_ge k l.length with h2 | h2
    · have h3 : 4294967296 ^ k ≤ 4294967296 ^ (l.length - 1) := Nat.pow_le_pow_right (by omega) (by omega)
      omega
    · exact h2
end Go.Proofs.YtgciimjcdhallaaDoor.Li
set_option linter.unusedVariables false
set_option linter.unusedSimpArgs false
namespace Go.Proofs.YtgciimjcdhallaaDoor.Li
open Go.RowKit Lb
theorem word_pow (k : Nat) : (4294967296 : Nat) ^ k = 2 ^ (32 * k) := by rw [Nat.pow_mul]
end Go.Proofs.YtgciimjcdhallaaDoor.Li
set_option linter.unusedVariables false
set_option linter.unusedSimpArgs false
namespace Go.Proofs.YtgciimjcdhallaaDoor.Li
open Go.RowKit Lb
set_option maxHeartbeats 400000 in
theorem norm_any (a : Option Addr) (c : Nat) (l : List Nat) (w : World) (hnc : l.length ≤ c) (hbig : l.length ≤ 9223372036854775807) (hr : Rd w a l) :
    Calls Tryd.prog 49 #[.slice a l.length c] w fun e w' => e = .returned (.slice a (nl l) c) ∧ w' = w := by
  go_enter Tryd.func49, Tryd.ntmps49
  go_wp2
  go_loop [3] (fun i => ∃ k : Nat, k ≤ l.length ∧ i = .int .i64 k ∧ ∀ j, k ≤ j → l.getD j 0 = 0) (fun i => (intOf i).toNat)
  case atStart => exact ⟨l.length, Nat.le_refl _, rfl, fun j hj => by simp [List.getD, List.getElem?_eq_none hj]⟩
  case round =>
    obtain ⟨k, hk, rfl, hz⟩ := hrel
    by_cases h0 : 0 < k
    · obtain ⟨b, o, rfl, hc⟩ := hr (k - 1) (by omega)
      obtain ⟨x, hx⟩ : ∃ x, l.getD (k - 1) 0 = x := ⟨_, rfl⟩
      rw [hx] at hc
      by_cases hx0 : x = 0
      · subst hx0
        have Hx : Hid (l.getD (k - 1) 0 = 0) := hx; clear hx
        go_wp2
        go_round
        case rel => exact ⟨k - 1, by omega, by go_num, fun j hj => by
          by_cases e : j = k - 1
          · subst e; exact Hx.out
          · exact hz j (by omega)⟩
        case measure => simp [intOf]; omega
      · have Hx : Hid (l.getD (k - 1) 0 = x) := hx; clear hx
        go_wp2
        go_ret
        refine ⟨?_, rfl⟩
        rw [nl_eq l k hz (fun _ => by rw [Hx.out]; exact hx0)]
        rfl
    · go_wp2
      go_ret
      refine ⟨?_, rfl⟩
      rw [nl_eq l k hz (by omega)]
      rfl
end Go.Proofs.YtgciimjcdhallaaDoor.Li
set_option linter.unusedVariables false
set_option linter.unusedSimpArgs false
namespace Go.Proofs.YtgciimjcdhallaaDoor.Li
open Go.RowKit Lb
/-- out = append(out, x). -/
theorem wpList_app32 {w0 wr : World} {ops : Array Oper} {rest : List Oper} {o : Oper} {a : Act} {Q : Exit → Act → World → Prop} (hgd : o.guard = none) (s x : Operand)
    (ho : o.op = .call { callee := .builtin .append, args := #[s, x], argTypes := #[46, 46] }) (l : List Nat) (v : Value) (hs : a.eval s = v) (Y : Int) (y : Nat) (hY : Y = (y : Int))
    (hx : a.eval x = .slice (some ⟨wr.heap.size, 0, none⟩) 1 1) (hown : Own w0.heap.size wr v l) (hk : Keep w0 wr) (hlen : l.length < 35184372088832)
    (hK : ∀ v' w1, Own w0.heap.size w1 v' (l ++ [y]) → Keep w0 w1 → wpList Tryd.prog ops Q rest (a.put o.dst v') w1) :
    wpList Tryd.prog ops Q (o :: rest) a (wr.alloc (.cells #[.int .u32 Y] 49)) := by
  obtain ⟨i0, hi, hz0, hz1, hz2⟩ := info_parts i62
  subst hY
  refine wpList_append_own _ hgd s x 46 ho w0.heap.size 49 i0 (.int .u32 0) 1 4 Tryd.underlying46 hi hz0 hz1 hz2 rfl (by decide) v _ _ hs (hown.alloc _) ⟨wr.heap.size, 0, none⟩ 1 1 [.int .u32 (y : Int)] hx rfl ?_ ?_ ?_ ?_ ?_ ?_
  · intro j u hj
    match j, hj with
    | 0, hj => simp at hj; subst hj; simp [Addr.add]
  · intro u hu; simp at hu; subst hu; rfl
  · simp only [maxLen]; omega
  · omega
  · have := hk.le; simp; omega
  · intro v' w1 h1 h2 _
    refine hK v' w1 ?_ ?_
    · unfold Own; simpa [U] using h1
    · refine Below.grown (hk.alloc _) h2 (by have := hk.le; simp; omega) ?_
      intro k hk'
      have := hown.lt k hk'
      exact this.1
end Go.Proofs.YtgciimjcdhallaaDoor.Li
