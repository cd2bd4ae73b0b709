import Derived.Test.YtpdjpjkieafnbaaGreatDoorShelf
import Derived.Test.YtpdjpjkieafnbaaGreatDoorLBase
import Derived.Test.YtpdjpjkieafnbaaGreatDoorFFM
import Derived.Laws.RangeString
import Derived.WalkKit
import Derived.WalkSpells
import Derived.WalkLawsBesides
import Derived.WalkMore
import Derived.Deep.LoopGhost
import Derived.Deep.Draws
import Derived.Deep.QuietTactic
import Derived.Deep.RegionWith
import Derived.Deep.CutRange
import Derived.Deep.RegionHeld3
import Derived.BigRegion
import Derived.BigQuiet
import Derived.Deep.RegionLaw
set_option linter.unusedVariables false
set_option linter.unusedSimpArgs false
namespace Go.Proofs.YtpdjpjkieafnbaaGreatDoor.Li
open Go.RowKit Lb
/-- What a hexadecimal digit says; -1: it is none. -/
def dgO (r : Nat) : Int := if 48 ≤ r ∧ r ≤ 57 then (r : Int) - 48 else if 97 ≤ r ∧ r ≤ 102 then (r : Int) - 87 else if 65 ≤ r ∧ r ≤ 70 then (r : Int) - 55 else -1
theorem i32_small {z : Nat} (h : z < 2147483648) : IntKind.i32.wrap (z : Int) = (z : Int) := by
  have e : IntKind.i32.wrap (z : Int) = if (z : Int) % 4294967296 ≥ 2147483648 then (z : Int) % 4294967296 - 4294967296 else (z : Int) % 4294967296 := by
    unfold IntKind.wrap
    have e1 : (2 : Int) ^ IntKind.i32.bits = 4294967296 := by decide
    have e2 : (2 : Int) ^ (IntKind.i32.bits - 1) = 2147483648 := by decide
    have e3 : IntKind.i32.signed = true := rfl
    simp only [e1, e2, e3, Bool.true_and, decide_eq_true_eq]
  rw [e]
  split <;> omega
theorem i32_sub (r k : Nat) (h : r < 2147483648) (hk : k ≤ r) : IntKind.i32.wrap ((r : Int) - (k : Int)) = (r : Int) - (k : Int) := by
  rw [show (r : Int) - (k : Int) = ((r - k : Nat) : Int) by omega]
  exact i32_small (by omega)
set_option maxRecDepth 100000 in
set_option maxHeartbeats 800000 in
theorem digitOf_any (r : Nat) (h : r < 2147483648) (w : World) : Calls Tryz.prog 168 #[.int .i32 (r : Int)] w fun e w' => e = .returned (.int .i64 (dgO r)) ∧ w' = w := by
  by_cases a1 : 48 ≤ r
  · by_cases a2 : r ≤ 57
    · have hw := i32_sub r 48 h a1
      have hv : dgO r = (r : Int) - 48 := by unfold dgO; rw [if_pos ⟨a1, a2⟩]
      rw [hv]
      have d1 : decide ((r : Int) ≥ 48) = true := decide_eq_true (by omega)
      have d2 : decide ((r : Int) ≤ 57) = true := decide_eq_true (by omega)
      go_enter Tryz.func168, Tryz.ntmps168
      go_wp2_with fail
      go_ret
      exact ⟨rfl, rfl⟩
    · have d1 : decide ((r : Int) ≥ 48) = true := decide_eq_true (by omega)
      have d2 : decide ((r : Int) ≤ 57) = false := decide_eq_false (by omega)
      by_cases b1 : 97 ≤ r
      · by_cases b2 : r ≤ 102
        · have hw := i32_sub r 97 h b1
          have hv : dgO r = (r : Int) - 97 + 10 := by unfold dgO; rw [if_neg (by omega), if_pos ⟨b1, b2⟩]; omega
          rw [hv]
          have d3 : decide ((r : Int) ≥ 97) = true := decide_eq_true (by omega)
          have d4 : decide ((r : Int) ≤ 102) = true := decide_eq_true (by omega)
          go_enter Tryz.func168, Tryz.ntmps168
          go_wp2_with fail
          go_ret
          exact ⟨rfl, rfl⟩
        · have hv : dgO r = -1 := by unfold dgO; rw [if_neg (by omega), if_neg (by omega), if_neg (by omega)]
          rw [hv]
          have d3 : decide ((r : Int) ≥ 97) = true := decide_eq_true (by omega)
          have d4 : decide ((r : Int) ≤ 102) = false := decide_eq_false (by omega)
          have d5 : decide ((r : Int) ≥ 65) = true := decide_eq_true (by omega)
          have d6 : decide ((r : Int) ≤ 70) = false := decide_eq_false (by omega)
          go_enter Tryz.func168, Tryz.ntmps168
          go_wp2_with fail
          go_ret
          exact ⟨rfl, rfl⟩
      · have d3 : decide ((r : Int) ≥ 97) = false := decide_eq_false (by omega)
        by_cases c1 : 65 ≤ r
        · have d5 : decide ((r : Int) ≥ 65) = true := decide_eq_true (by omega)
          by_cases c2 : r ≤ 70
          · have hw := i32_sub r 65 h c1
            have hv : dgO r = (r : Int) - 65 + 10 := by unfold dgO; rw [if_neg (by omega), if_neg (by omega), if_pos ⟨c1, c2⟩]; omega
            rw [hv]
            have d6 : decide ((r : Int) ≤ 70) = true := decide_eq_true (by omega)
            go_enter Tryz.func168, Tryz.ntmps168
            go_wp2_with fail
            go_ret
            exact ⟨rfl, rfl⟩
          · have hv : dgO r = -1 := by unfold dgO; rw [if_neg (by omega), if_neg (by omega), if_neg (by omega)]
            rw [hv]
            have d6 : decide ((r : Int) ≤ 70) = false := decide_eq_false (by omega)
            go_enter Tryz.func168, Tryz.ntmps168
            go_wp2_with fail
            go_ret
            exact ⟨rfl, rfl⟩
        · have hv : dgO r = -1 := by unfold dgO; rw [if_neg (by omega), if_neg (by omega), if_neg (by omega)]
          rw [hv]
          have d5 : decide ((r : Int) ≥ 65) = false := decide_eq_false (by omega)
          go_enter Tryz.func168, Tryz.ntmps168
          go_wp2_with fail
          go_ret
          exact ⟨rfl, rfl⟩
  · have hv : dgO r = -1 := by unfold dgO; rw [if_neg (by omega), if_neg (by omega), if_neg (by omega)]
    rw [hv]
    have d1 : decide ((r : Int) ≥ 48) = false := decide_eq_false (by omega)
    have d3 : decide ((r : Int) ≥ 97) = false := decide_eq_false (by omega)
    have d5 : decide ((r : Int) ≥ 65) = false := decide_eq_false (by omega)
    go_enter Tryz.func168, Tryz.ntmps168
    go_wp2_with fail
    go_ret
    exact ⟨rfl, rfl⟩
end Go.Proofs.YtpdjpjkieafnbaaGreatDoor.Li
set_option linter.unusedVariables false
set_option linter.unusedSimpArgs false
namespace Go.Proofs.YtpdjpjkieafnbaaGreatDoor.Li
open Go.RowKit Lb
/-- A digit, decimal or hexadecimal. -/
def isX (hex : Bool) (b : UInt8) : Bool := decide (0 ≤ dgO b.toNat) && (hex || decide (dgO b.toNat ≤ 9))
theorem isX_dec (b : UInt8) : isX false b = isD b := by
  unfold isX isD dgO
  rw [Bool.false_or]
  by_cases h : 48 ≤ b.toNat ∧ b.toNat ≤ 57
  · rw [if_pos h, decide_eq_true h, decide_eq_true (by omega), decide_eq_true (by omega)]; rfl
  · rw [if_neg h, decide_eq_false h]
    split
    · have : ¬ ((b.toNat : Int) - 87 ≤ 9) := by omega
      rw [decide_eq_false this, Bool.and_false]
    · split
      · have : ¬ ((b.toNat : Int) - 55 ≤ 9) := by omega
        rw [decide_eq_false this, Bool.and_false]
      · rfl
theorem decode_high (s : ByteArray) (pos : Nat) (h : pos < s.size) (ha : 128 ≤ (s[pos]'h).toNat) : 128 ≤ (Utf8.decode s pos).1 ∧ (Utf8.decode s pos).1 < 2147483648 := by
  have e : s.get! (pos + 0) = s[pos]'h := by
    show s.get! pos = _
    simp [ByteArray.get!, getElem!_pos, h]
    rfl
  have e2 : Utf8.runeError = 65533 := rfl
  unfold Utf8.decode
  simp only [e, e2]
  rw [if_neg (by omega)]
  have b0 := (s[pos]'h).toNat_lt
  have b1 := (s.get! (pos + 1)).toNat_lt
  have b2 := (s.get! (pos + 2)).toNat_lt
  have b3 := (s.get! (pos + 3)).toNat_lt
  generalize (s[pos]'h).toNat = x0 at *
  generalize (s.get! (pos + 1)).toNat = x1 at *
  generalize (s.get! (pos + 2)).toNat = x2 at *
  generalize (s.get! (pos + 3)).toNat = x3 at *
  repeat' split
  all_goals (simp only [ge_iff_le, Bool.and_eq_true, decide_eq_true_eq] at *; omega)
theorem next_any {l : List UInt8} {i : Nat} (hi : i < l.length) (w : World) : ∃ r k : Nat, (∀ ty, (Instr.next (.pointer (some ⟨w.heap.size, 0, none⟩)) true ty).run Tryz.prog (w.iter ⟨l.toArray⟩ i) = .ok (.tuple #[.bool true, .int .i64 i, .int .i32 (r : Int)]) (w.iter ⟨l.toArray⟩ (i + k))) ∧ r < 2147483648 ∧ ((l.getD i 0).toNat < 128 → r = (l.getD i 0).toNat ∧ k = 1) ∧ (128 ≤ (l.getD i 0).toNat → 128 ≤ r) := by
  have hs : i < (ByteArray.mk l.toArray).size := by simp [ByteArray.size]; exact hi
  have e : (ByteArray.mk l.toArray)[i]'hs = l.getD i 0 := by
    have : l.getD i 0 = l[i] := by simp [List.getD, List.getElem?_eq_getElem hi]
    rw [this]
    rfl
  by_cases c : (l.getD i 0).toNat < 128
  · refine ⟨(l.getD i 0).toNat, 1, ?_, by omega, fun _ => ⟨rfl, rfl⟩, fun h => by omega⟩
    intro ty
    have := run_next_ascii (P := Tryz.prog) w ⟨l.toArray⟩ i ty hs (by rw [e]; omega)
    rw [e] at this
    exact this
  · obtain ⟨d1, d2⟩ := decode_high ⟨l.toArray⟩ i hs (by rw [e]; omega)
    obtain ⟨r, k, hd⟩ : ∃ r k, Utf8.decode ⟨l.toArray⟩ i = (r, k) := ⟨_, _, rfl⟩
    rw [hd] at d1 d2
    refine ⟨r, k, ?_, d2, fun h => by omega, fun _ => d1⟩
    intro ty
    simp only [Instr.next, getObj, setObj, Sem.run_bind, Sem.run, World.iter_heap, Result.andThen, hs, if_true, hd, World.iter_set]
    simp [goInt, Sem.run, World.iter_heap, World.iter_set]
theorem next_fin {l : List UInt8} (w : World) (ty : TypeId) : (Instr.next (.pointer (some ⟨w.heap.size, 0, none⟩)) true ty).run Tryz.prog (w.iter ⟨l.toArray⟩ l.length) = .ok (.tuple #[.bool false]) (w.iter ⟨l.toArray⟩ l.length) := run_next_end w ⟨l.toArray⟩ l.length ty (by simp [ByteArray.size])
theorem tw_len (p : UInt8 → Bool) : ∀ (l : List UInt8) (i : Nat), i ≤ l.length → (∀ j, j < i → p (l.getD j 0) = true) → (i = l.length ∨ p (l.getD i 0) = false) → (l.takeWhile p).length = i
  | [], i, h, _, _ => by simp at h; simp [h]
  | b :: l, 0, _, _, h => by
    rcases h with h | h
    · simp at h
    · rw [List.takeWhile_cons_of_neg (by simpa using h)]; rfl
  | b :: l, i + 1, h, g, e => by
    have h0 : p b = true := by simpa using g 0 (by omega)
    rw [List.takeWhile_cons_of_pos h0, List.length_cons]
    have := tw_len p l i (by simpa using h) (fun j hj => by simpa using g (j + 1) (by omega)) (by
      rcases e with e | e
      · left; simpa using e
      · right; simpa using e)
    omega
set_option maxRecDepth 100000 in
set_option maxHeartbeats 2000000 in
/-- With how many digits a text begins. -/
theorem digitRun_any (l : List UInt8) (hex : Bool) (w : World) (hl : l.length ≤ 1099511627776) :
    Calls Tryz.prog 134 #[.string ⟨l.toArray⟩, .bool hex] w fun e w' => e = .returned (.int .i64 ((l.takeWhile (isX hex)).length : Nat)) ∧ ∃ p, w' = w.alloc (.stringIter ⟨l.toArray⟩ p) := by
  have hD := fun (r : Nat) (h : r < 2147483648) wx => digitOf_any r h wx
  have hsz : (ByteArray.mk l.toArray).size = l.length := by simp [ByteArray.size]
  go_enter Tryz.func134, Tryz.ntmps134
  go_wp2_with fail
  go_loopg [5] (l.length) (fun g v5 wx => ∃ i : Nat, i + g = l.length ∧ (∀ j, j < i → isX hex (l.getD j 0) = true) ∧ wx = w.iter ⟨l.toArray⟩ i)
  case atStart => exact ⟨0, by omega, fun j hj => absurd hj (by omega), rfl⟩
  case round =>
    obtain ⟨i, hig, hall, rfl⟩ := hrel
    have Hall : Hid (∀ j, j < i → isX hex (l.getD j 0) = true) := hall
    clear hall
    by_cases hil : i < l.length
    · obtain ⟨r, k, hnx, hr, ha, hb⟩ := next_any hil w
      have hDr := fun wx => hD r hr wx
      have hend : Hid (isX hex (l.getD i 0) = false → (l.takeWhile (isX hex)).length = i) := fun h => tw_len _ l i (by omega) Hall.out (.inr h)
      have hstep : Hid (isX hex (l.getD i 0) = true → ∀ j, j < i + 1 → isX hex (l.getD j 0) = true) := by
        intro h j hj
        by_cases c : j = i
        · rw [c]; exact h
        · exact Hall.out j (by omega)
      have hval : Hid ((l.getD i 0).toNat < 128 ∧ r = (l.getD i 0).toNat ∧ k = 1 ∨ 128 ≤ r ∧ 128 ≤ (l.getD i 0).toNat) := by
        by_cases c : (l.getD i 0).toNat < 128
        · exact .inl ⟨c, ha c⟩
        · exact .inr ⟨hb (by omega), by omega⟩
      clear ha hb hD
      have hX : Hid (isX hex (l.getD i 0) = (decide (0 ≤ dgO r) && (hex || decide (dgO r ≤ 9))) ∧ (0 ≤ dgO r → k = 1)) := by
        rcases hval.out with ⟨h1, h2, h3⟩ | ⟨h1, h2⟩
        · refine ⟨?_, fun _ => h3⟩
          rw [h2]; rfl
        · have e1 : dgO r = -1 := by unfold dgO; rw [if_neg (by omega), if_neg (by omega), if_neg (by omega)]
          have e2 : dgO (l.getD i 0).toNat = -1 := by unfold dgO; rw [if_neg (by omega), if_neg (by omega), if_neg (by omega)]
          refine ⟨?_, fun h => absurd h (by omega)⟩
          unfold isX
          rw [e1, e2]
      have hdb : Hid (-1 ≤ dgO r ∧ dgO r ≤ 15) := by
        unfold Hid dgO
        repeat' split
        all_goals omega
      clear hval
      generalize dgO r = d at *
      have hb1 := hdb.out.1
      have hb2 := hdb.out.2
      clear hdb
      have stop : ∀ _ : isX hex (l.getD i 0) = false, True := fun _ => trivial
      by_cases c1 : d < 0
      · have g1 : decide (d < 0) = true := decide_eq_true c1
        have he : Hid ((l.takeWhile (isX hex)).length = i) := hend.out (by rw [hX.out.1, decide_eq_false (by omega)]; rfl)
        clear hend hstep hX
        go_wp2_with fail
        refine (hDr _).mono ?_
        rintro e wz ⟨rfl, hz⟩
        rw [hz]
        clear hz
        go_wp2_with fail
        go_ret
        exact ⟨by rw [he.out]; rfl, ⟨_, rfl⟩⟩
      · have g1 : decide (d < 0) = false := decide_eq_false c1
        by_cases c2 : 9 < d
        · have g2 : decide (9 < d) = true := decide_eq_true c2
          cases hex
          · have he : Hid ((l.takeWhile (isX false)).length = i) := hend.out (by rw [hX.out.1, decide_eq_false (p := d ≤ 9) (by omega), Bool.or_false, Bool.and_false])
            clear hend hstep hX
            go_wp2_with fail
            refine (hDr _).mono ?_
            rintro e wz ⟨rfl, hz⟩
            rw [hz]
            clear hz
            go_wp2_with fail
            go_ret
            exact ⟨by rw [he.out]; rfl, ⟨_, rfl⟩⟩
          · have he := hstep.out (by rw [hX.out.1, decide_eq_true (p := 0 ≤ d) (by omega)]; rfl)
            have hk : k = 1 := hX.out.2 (by omega)
            subst hk
            replace he : Hid _ := he
            clear hend hstep hX
            go_wp2_with fail
            refine (hDr _).mono ?_
            rintro e wz ⟨rfl, hz⟩
            rw [hz]
            clear hz
            go_wp2_with fail
            go_roundg (gk - 1)
            case measure => omega
            case rel => exact ⟨i + 1, by omega, he.out, rfl⟩
        · have g2 : decide (9 < d) = false := decide_eq_false c2
          have he := hstep.out (by rw [hX.out.1, decide_eq_true (p := 0 ≤ d) (by omega), decide_eq_true (p := d ≤ 9) (by omega), Bool.or_true]; rfl)
          have hk : k = 1 := hX.out.2 (by omega)
          subst hk
          replace he : Hid _ := he
          clear hend hstep hX
          go_wp2_with fail
          refine (hDr _).mono ?_
          rintro e wz ⟨rfl, hz⟩
          rw [hz]
          clear hz
          go_wp2_with fail
          go_roundg (gk - 1)
          case measure => omega
          case rel => exact ⟨i + 1, by omega, he.out, rfl⟩
    · obtain rfl : i = l.length := by omega
      have hnx := fun ty => next_fin (l := l) w ty
      have hend : Hid ((l.takeWhile (isX hex)).length = l.length) := tw_len _ l _ (by omega) Hall.out (.inl rfl)
      go_wp2_with fail
      go_ret
      exact ⟨by rw [hend.out]; rfl, ⟨_, rfl⟩⟩
end Go.Proofs.YtpdjpjkieafnbaaGreatDoor.Li
set_option linter.unusedVariables false
set_option linter.unusedSimpArgs false
namespace Go.Proofs.YtpdjpjkieafnbaaGreatDoor.Li
open Go.RowKit Lb
def tk (s ts : List UInt8) (k : Nat) : Bool := decide (k < s.length ∧ s.getD k 0 ∈ ts)
def mkE (hx : Bool) : List UInt8 := if hx then [112] else [101, 69]
/-- A power's parts: is there one, its sign, its digits, where it ends. -/
def cpE (hx : Bool) (s : List UInt8) (k : Nat) : Bool := tk s (mkE hx) k
def cpS (s : List UInt8) (k : Nat) : Bool := tk s [43, 45] (k + 1)
def cpN (hx : Bool) (s : List UInt8) (k : Nat) : Bool := cpE hx s k && tk s [45] (k + 1)
def cpJ (s : List UInt8) (k : Nat) : Nat := if cpS s k then k + 2 else k + 1
def cpD (hx : Bool) (s : List UInt8) (k : Nat) : List UInt8 := if cpE hx s k then (s.drop (cpJ s k)).takeWhile isD else []
def cpK (hx : Bool) (s : List UInt8) (k : Nat) : Nat := if cpE hx s k then cpJ s k + (cpD hx s k).length else k
def cpO (hx : Bool) (s : List UInt8) (k : Nat) : Bool := if cpE hx s k then decide (0 < (cpD hx s k).length) && decide (cpK hx s k = s.length) else decide (k = s.length) && !hx
/-- A spelling's variable. -/
def Sp (w : World) (b : Nat) (v : Array Value) : Prop := w.heap[b]? = some (.cells v 129 (0, 0))
theorem Sp.keep {w w' : World} {g : Nat} {v : Array Value} (h : Sp w g v) (k : Keep w w') : Sp w' g v := by
  unfold Sp; rw [k.block g (Array.getElem?_eq_some_iff.1 h).1]; exact h
theorem Sp.cell {w : World} {g : Nat} {v : Array Value} (h : Sp w g v) (j : Nat) : w.cell? ⟨g, j, none⟩ = v[j]? := cell_of_row w g j v 129 (0, 0) h
theorem Sp.free {w : World} {g : Nat} {v : Array Value} (h : Sp w g v) (j : Nat) : w.frozen? ⟨g, j, none⟩ = false := frozen_of_row w g j _ 129 h
theorem Sp.lt {w : World} {g : Nat} {v : Array Value} (h : Sp w g v) : g < w.heap.size := (Array.getElem?_eq_some_iff.1 h).1
theorem Sp.new (w : World) (v : Array Value) : Sp (w.alloc (.cells v 129)) w.heap.size v := heap_alloc_new w _
theorem Sp.set {w : World} {g : Nat} {v : Array Value} (h : Sp w g v) (j : Nat) (x : Value) : Sp (w.setCell ⟨g, j, none⟩ x) g (v.setIfInBounds j x) := heap_setCell_same w g j _ 129 x h
theorem Sp.other {w : World} {g c : Nat} {v : Array Value} (h : Sp w c v) (hne : g ≠ c) (j : Nat) (x : Value) : Sp (w.setCell ⟨g, j, none⟩ x) c v := by
  unfold Sp
  rw [heap_setCell_other w ⟨g, j, none⟩ c x (fun e => hne e.symm)]
  exact h
/-- One field written. -/
theorem Sp.put {w0 w : World} {g : Nat} {v : Array Value} (h : Sp w g v) (k : Keep w0 w) (hg : w0.heap.size ≤ g) (j : Nat) (x : Value) : ∃ w', w.setCell ⟨g, j, none⟩ x = w' ∧ Sp w' g (v.setIfInBounds j x) ∧ Keep w0 w' ∧ w'.heap.size = w.heap.size ∧ ∀ c u, c ≠ g → Sp w c u → Sp w' c u :=
  ⟨_, rfl, h.set j x, k.setCell hg x, by simp, fun c u hc hu => hu.other (fun e => hc e.symm) j x⟩
theorem Sp.all6 {w : World} {g : Nat} {v0 v1 v2 v3 v4 v5 : Value} (h : Sp w g #[v0, v1, v2, v3, v4, v5]) (x0 x1 x2 x3 x4 x5 : Value) :
    Sp ((((((w.setCell ⟨g, 0, none⟩ x0).setCell ⟨g, 1, none⟩ x1).setCell ⟨g, 2, none⟩ x2).setCell ⟨g, 3, none⟩ x3).setCell ⟨g, 4, none⟩ x4).setCell ⟨g, 5, none⟩ x5) g #[x0, x1, x2, x3, x4, x5] := by
  have := (((((h.set 0 x0).set 1 x1).set 2 x2).set 3 x3).set 4 x4).set 5 x5
  simpa using this
theorem Keep.all6 {w0 w : World} {g : Nat} (k : Keep w0 w) (hg : w0.heap.size ≤ g) (x0 x1 x2 x3 x4 x5 : Value) :
    Keep w0 ((((((w.setCell ⟨g, 0, none⟩ x0).setCell ⟨g, 1, none⟩ x1).setCell ⟨g, 2, none⟩ x2).setCell ⟨g, 3, none⟩ x3).setCell ⟨g, 4, none⟩ x4).setCell ⟨g, 5, none⟩ x5) :=
  (((((k.setCell hg x0).setCell hg x1).setCell hg x2).setCell hg x3).setCell hg x4).setCell hg x5
theorem Sp.drew {w : World} {g : Nat} {v : Array Value} (h : Sp w g v) : Sp w.drew g v := h
theorem results_sp {fn : Func} {t u q : Tmp} (h : fn.results = #[.cell t 129, .tmp u, .tmp q]) (tmps : Array Value) (w : World) (g : Nat) (v0 v1 v2 v3 v4 v5 : Value) (hp : tmps.getD t undef = .pointer (some ⟨g, 0, none⟩)) (hh : Sp w g #[v0, v1, v2, v3, v4, v5]) :
    (results fn tmps).run Tryz.prog w = .ok (.tuple #[.agg #[v0, v1, v2, v3, v4, v5], tmps.getD u undef, tmps.getD q undef]) w := by
  have c0 := hh.cell 0
  have c1 := hh.cell 1
  have c2 := hh.cell 2
  have c3 := hh.cell 3
  have c4 := hh.cell 4
  have c5 := hh.cell 5
  simp only [List.getElem?_toArray, List.getElem?_cons_zero, List.getElem?_cons_succ] at c0 c1 c2 c3 c4 c5
  have hp' : (tmps[t]?).getD undef = .pointer (some ⟨g, 0, none⟩) := by simpa using hp
  simp [results, h, hp, hp', go_sem, c0, c1, c2, c3, c4, c5]
end Go.Proofs.YtpdjpjkieafnbaaGreatDoor.Li
set_option linter.unusedVariables false
set_option linter.unusedSimpArgs false
namespace Go.Proofs.YtpdjpjkieafnbaaGreatDoor.Li
open Go.RowKit Lb
theorem sz_mk (l : List UInt8) : (ByteArray.mk l.toArray).size = l.length := by simp [ByteArray.size]
theorem dt_mk (l : List UInt8) : (ByteArray.mk l.toArray).data.toList = l := by simp
theorem run_ix (l : List UInt8) (j : Nat) (h : j < l.length) (w : World) : (Instr.index 9 (.string ⟨l.toArray⟩) (.int .i64 (j : Int))).run Tryz.prog w = .ok (.int .u8 ((l.getD j 0).toNat : Nat)) w := by
  have hs : (ByteArray.mk l.toArray).size = l.length := sz_mk l
  have h1 : (0 : Int) ≤ (j : Int) ∧ (j : Int) < ((ByteArray.mk l.toArray).size : Int) := by rw [hs]; omega
  rw [run_index_string w 9 _ .i64 j Tryz.underlying9, dif_pos h1]
  have : (l.getD j 0) = ((ByteArray.mk l.toArray)[((j : Int)).toNat]'(by rw [hs]; omega)) := by
    show _ = (ByteArray.mk l.toArray).data[((j : Int)).toNat]'_
    simp [List.getD, h]
  rw [this]
theorem ext_mk (l : List UInt8) (a b : Nat) : (ByteArray.mk l.toArray).extract a b = ⟨((l.take b).drop a).toArray⟩ := by
  rw [ByteArray.extract_mk, List.drop_take]
theorem run_from (l : List UInt8) (j : Nat) (h : j ≤ l.length) (w : World) : (Instr.slice 9 (.string ⟨l.toArray⟩) (some (.int .i64 (j : Int))) none none).run Tryz.prog w = .ok (.string ⟨(l.drop j).toArray⟩) w := by
  rw [run_slice_string_l w 9 _ Tryz.underlying9 .i64 (j : Int) (by omega) (by rw [sz_mk]; omega)]
  rw [ext_mk, sz_mk, List.take_length]; rfl
theorem run_upto (l : List UInt8) (j : Nat) (h : j ≤ l.length) (w : World) : (Instr.slice 9 (.string ⟨l.toArray⟩) none (some (.int .i64 (j : Int))) none).run Tryz.prog w = .ok (.string ⟨(l.take j).toArray⟩) w := by
  rw [run_slice_string_h w 9 _ Tryz.underlying9 .i64 (j : Int) (by omega) (by rw [sz_mk]; omega)]
  rw [ext_mk]; rfl
theorem run_cut (l : List UInt8) (f i : Nat) (h : f ≤ i) (h2 : i ≤ l.length) (w : World) : (Instr.slice 9 (.string ⟨l.toArray⟩) (some (.int .i64 (f : Int))) (some (.int .i64 (i : Int))) none).run Tryz.prog w = .ok (.string ⟨((l.take i).drop f).toArray⟩) w := by
  rw [run_slice_string w 9 _ .i64 .i64 (f : Int) (i : Int) Tryz.underlying9 (by omega) (by omega) (by rw [sz_mk]; omega)]
  rw [ext_mk]; rfl
theorem ix_any (ts : List UInt8) (c : UInt8) (wx : World) : Calls Tryz.prog 169 #[.string ⟨ts.toArray⟩, .int .u8 (c.toNat : Int)] wx fun e w' => e = .returned (.int .i64 (Lib.indexByte ts c)) ∧ w' = wx := by
  have h := Tryz.strings_IndexByte ⟨ts.toArray⟩ (c.toNat : Int) wx
  have e : ((c.toNat : Int)).toNat.toUInt8 = c := by simp
  rw [e] at h
  have e2 : (ByteArray.mk ts.toArray).data.toList = ts := dt_mk ts
  rw [e2] at h
  exact h
theorem tw_cut (p : UInt8 → Bool) (s : List UInt8) (k : Nat) : (s.take (k + ((s.drop k).takeWhile p).length)).drop k = (s.drop k).takeWhile p ∧ (k ≤ s.length → k + ((s.drop k).takeWhile p).length ≤ s.length) := by
  have e := List.prefix_iff_eq_take.1 (List.takeWhile_prefix (p := p) (l := s.drop k))
  refine ⟨?_, ?_⟩
  · rw [← List.take_drop]
    exact e.symm
  · intro h
    have := (List.takeWhile_prefix (p := p) (l := s.drop k)).length_le
    rw [List.length_drop] at this
    omega
theorem isX_fun : isX false = isD := funext isX_dec
theorem Sp.six {w : World} {g : Nat} {v0 v1 v2 v3 v4 v5 : Value} (h : Sp w g #[v0, v1, v2, v3, v4, v5]) : w.cell? ⟨g, 0, none⟩ = some v0 ∧ w.cell? ⟨g, 1, none⟩ = some v1 ∧ w.cell? ⟨g, 2, none⟩ = some v2 ∧ w.cell? ⟨g, 3, none⟩ = some v3 ∧ w.cell? ⟨g, 4, none⟩ = some v4 ∧ w.cell? ⟨g, 5, none⟩ = some v5 := by
  refine ⟨?_, ?_, ?_, ?_, ?_, ?_⟩ <;> rw [h.cell] <;> rfl
theorem Sp.frs {w : World} {g : Nat} {v : Array Value} (h : Sp w g v) : w.frozen? ⟨g, 0, none⟩ = false ∧ w.frozen? ⟨g, 1, none⟩ = false ∧ w.frozen? ⟨g, 2, none⟩ = false ∧ w.frozen? ⟨g, 3, none⟩ = false ∧ w.frozen? ⟨g, 4, none⟩ = false ∧ w.frozen? ⟨g, 5, none⟩ = false :=
  ⟨h.free 0, h.free 1, h.free 2, h.free 3, h.free 4, h.free 5⟩
end Go.Proofs.YtpdjpjkieafnbaaGreatDoor.Li
