import Derived.Test.YtpdjpjkieafnbaaGreatDoorSH6
import Derived.Test.YtpdjpjkieafnbaaGreatDoorLE7
import Derived.Test.YtpdjpjkieafnbaaGreatDoorProg
import Derived.WalkKit
import Derived.WalkSpells
import Derived.WalkLawsBesides
import Derived.Laws.CopyOwn
import Derived.Deep.Draws
import Derived.Deep.QuietTactic
import Derived.BigQuiet
import Derived.Deep.RegionWith
import Derived.Deep.RegionHeld3
import Derived.Shelf.Strconv.Itoa0
import Derived.Shelf.Spec.TrailingZeros
set_option linter.unusedVariables false
set_option linter.unusedSimpArgs false
namespace Go.Proofs.YtpdjpjkieafnbaaGreatDoor.Li
open Go.RowKit Lb
theorem cut0_app (a b : List Nat) (h : cut0 a ≠ []) : cut0 (a ++ b) = cut0 a ++ b := by
  unfold cut0 at *
  rw [List.dropWhile_append]
  simp [h]
theorem dec_small {n : Nat} (h : n < 10) : dec n = [48 + n] := by
  unfold dec
  by_cases h0 : n = 0
  · rw [if_pos h0, h0]
  · rw [if_neg h0, ← cut0_eq n 1 (by omega)]
    rw [dw, dw]
    unfold cut0
    have e : n % 10 = n := Nat.mod_eq_of_lt h
    rw [e, List.nil_append, List.dropWhile_cons_of_neg (by simp; omega)]
theorem dec_step {n : Nat} (h : ¬ n < 10) : dec n = dec (n / 10) ++ [48 + n % 10] := by
  have h1 : n / 10 ≠ 0 := by omega
  have hb : n / 10 < 10 ^ (n / 10) := lt_pow _
  have hb2 : n < 10 ^ (n / 10 + 1) := by rw [Nat.pow_succ]; omega
  unfold dec
  rw [if_neg (by omega), if_neg h1, ← cut0_eq n (n / 10 + 1) hb2, dw, cut0_app _ _ (cut0_ne _ _ (by omega) hb)]
/-- The digits that Print writes are the digits. -/
theorem dec_dD : ∀ (k n : Nat), n ≤ k → (dec n).map UInt8.ofNat = dD n := by
  intro k
  induction k with
  | zero =>
    intro n hn
    rw [dec_small (by omega), dD_small (by omega)]
    rfl
  | succ k ih =>
    intro n hn
    by_cases h : n < 10
    · rw [dec_small h, dD_small h]
      rfl
    · rw [dec_step h, dD_step h, List.map_append, ih (n / 10) (by omega)]
      rfl
theorem S8_dD (n : Nat) : S8 (dec n) = ⟨(dD n).toArray⟩ := by
  unfold S8
  rw [dec_dD n n (Nat.le_refl _)]
/-- Print, of a natural that is not too long. -/
theorem Print_dD (a : Option Addr) (ca : Nat) (l : List Nat) (w : World) (h1 : l.length ≤ ca) (h2 : l.length ≤ 1000) (h3 : Rd w a l) (h4 : Lim l) :
    Calls Tryz.prog 107 #[.slice a l.length ca] w fun e w' => e = .returned (.string ⟨(dD (val l)).toArray⟩) ∧ Keep w w' := by
  have hl : lenB l ≤ 1099511627776 := by
    have := lenB_max h4
    omega
  have q := Print_any a ca l w h1 (by omega) h3 h4 hl
  rw [S8_dD] at q
  exact q
end Go.Proofs.YtpdjpjkieafnbaaGreatDoor.Li
set_option linter.unusedVariables false
set_option linter.unusedSimpArgs false
namespace Go.Proofs.YtpdjpjkieafnbaaGreatDoor.Bi
open Go.RowKit
/-- Limbs as cells. -/
def U (l : List Nat) : List Value := l.map (fun x => Value.int .u64 (x : Nat))
theorem U_get (l : List Nat) (j : Nat) (h : j < l.length) : (U l)[j]? = some (.int .u64 (l.getD j 0 : Nat)) := by simp [U, List.getD, h]
/-- A block that holds limbs. -/
def Row (w : World) (g : Nat) (l : List Nat) : Prop := w.heap[g]? = some (.cells (U l).toArray 59 (0, 0))
/-- Nothing that was there has turned. -/
def Keep (w w' : World) : Prop := Below w.heap.size w w'
/-- Only block g has turned. -/
structure Mut (g : Nat) (w w' : World) : Prop where
  os : w'.os = w.os
  tape : w'.tape = w.tape
  output : w'.output = w.output
  size : w'.heap.size = w.heap.size
  block : ∀ k, k ≠ g → w'.heap[k]? = w.heap[k]?
/-- What a slice at that address reads as. -/
def Rd (w : World) (a : Option Addr) (l : List Nat) : Prop :=
  ∀ j, j < l.length → ∃ b o, a = some ⟨b, o, none⟩ ∧ w.cell? ⟨b, o + j, none⟩ = some (.int .u64 (l.getD j 0 : Nat))
/-- A slice over a block of the call's own, from its head on. -/
def Res (B : Nat) (w : World) (v : Value) (l : List Nat) : Prop :=
  (v = .slice none 0 0 ∧ l = []) ∨ ∃ g r, v = .slice (some ⟨g, 0, none⟩) l.length r.length ∧ B ≤ g ∧ Row w g r ∧ l.length ≤ r.length ∧ r.take l.length = l
theorem Row.lt {w : World} {g : Nat} {l : List Nat} (h : Row w g l) : g < w.heap.size := (Array.getElem?_eq_some_iff.1 h).1
theorem Row.cell {w : World} {g : Nat} {l : List Nat} (h : Row w g l) (j : Nat) (hj : j < l.length) : w.cell? ⟨g, j, none⟩ = some (.int .u64 (l.getD j 0 : Nat)) := by
  rw [cell_of_row w g j _ 59 (0, 0) h]; simpa using U_get l j hj
theorem Row.drewN {w : World} {g : Nat} {l : List Nat} (h : Row w g l) (q : Nat) : Row (w.drewN q) g l := h
theorem Row.keep {w w' : World} {g : Nat} {l : List Nat} (h : Row w g l) (k : Keep w w') : Row w' g l := by
  unfold Row; rw [k.block g h.lt]; exact h
theorem Keep.trans {a b c : World} (h : Keep a b) (k : Keep b c) : Keep a c := Below.trans h (Below.mono k h.size)
theorem Keep.drewN {a b : World} (h : Keep a b) (q : Nat) : Keep a (b.drewN q) := ⟨h.os, h.tape, h.output, h.size, h.block⟩
theorem Keep.cell {a b : World} (h : Keep a b) {p : Addr} {v : Value} (hc : a.cell? p = some v) : b.cell? p = some v :=
  (Below.cell h (World.block_lt_of_cell? a p hc)).trans hc
theorem Mut.trans {g : Nat} {a b c : World} (h : Mut g a b) (k : Mut g b c) : Mut g a c :=
  ⟨k.os.trans h.os, k.tape.trans h.tape, k.output.trans h.output, k.size.trans h.size, fun i hi => (k.block i hi).trans (h.block i hi)⟩
theorem Mut.drewN {g : Nat} {a b : World} (h : Mut g a b) (q : Nat) : Mut g a (b.drewN q) := ⟨h.os, h.tape, h.output, h.size, h.block⟩
theorem Mut.cell {g : Nat} {a b : World} (h : Mut g a b) {p : Addr} {v : Value} (hp : p.block ≠ g) (hc : a.cell? p = some v) : b.cell? p = some v :=
  (World.cell?_of_block (h.block p.block hp)).trans hc
theorem Rd.keep {w w' : World} {a : Option Addr} {l : List Nat} (h : Rd w a l) (k : Keep w w') : Rd w' a l := by
  intro j hj
  obtain ⟨b, o, e, hc⟩ := h j hj
  exact ⟨b, o, e, k.cell hc⟩
theorem Res.keep {B : Nat} {w w' : World} {v : Value} {l : List Nat} (h : Res B w v l) (k : Keep w w') : Res B w' v l := by
  rcases h with h | ⟨g, r, e, hb, hr, h1, h2⟩
  · exact .inl h
  · exact .inr ⟨g, r, e, hb, hr.keep k, h1, h2⟩
end Go.Proofs.YtpdjpjkieafnbaaGreatDoor.Bi
set_option linter.unusedVariables false
set_option linter.unusedSimpArgs false
namespace Go.Proofs.YtpdjpjkieafnbaaGreatDoor.Bi
open Go.RowKit
/-- The library's table lies in its variable. -/
def Tab (w : World) : Prop := TabAt 1 Lib.deBruijn64tab w
theorem Tab.keep {w w' : World} (h : Tab w) (k : Keep w w') : Tab w' := fun j hj => k.cell (h j hj)
theorem Tab.drewN {w : World} (h : Tab w) (q : Nat) : Tab (w.drewN q) := h
set_option maxHeartbeats 1000000 in
theorem tz_core (x k idx : Nat) (w : World) (hx0 : ((x : Int) == 0) = false)
    (key : IntKind.u64.wrap (bits BinOp.and IntKind.u64 (x : Int) (IntKind.u64.wrap (-(x : Int))) * 285870213051353865) / 288230376151711744 = (idx : Int))
    (hi : idx < 64) (hk : k < 64) (hcell : w.cell? ⟨1, idx, none⟩ = some (.int .u8 (k : Nat))) :
    Calls Tryz.prog 105 #[.int .u64 (x : Nat)] w fun e w' => e = .returned (.int .i64 (k : Nat)) ∧ w' = w := by
  go_enter Tryz.func105, Tryz.ntmps105
  go_wp2
  go_ret
  exact ⟨rfl, rfl⟩
theorem tz_any (x : Nat) (hx : x < 18446744073709551616) (hx0 : x ≠ 0) (w : World) (hT : Tab w) :
    Calls Tryz.prog 105 #[.int .u64 (x : Nat)] w fun e w' => e = .returned (.int .i64 (Lib.ctz 64 x : Nat)) ∧ w' = w := by
  obtain ⟨hlow, hk⟩ := Lib.lowest_bit 64 x hx0 hx
  obtain ⟨hi, htab⟩ := Lib.deBruijn64_at _ hk
  have hcell := hT _ hi
  rw [htab] at hcell
  exact tz_core x _ _ w (by simp; omega) (tz64_key x _ hx hx0 hlow) hi hk hcell
end Go.Proofs.YtpdjpjkieafnbaaGreatDoor.Bi
