import Derived.Test.YtgciimjcdhallaaDoorProg
import Derived.Test.YtgciimjcdhallaaDoorLA1
import Derived.Test.YtgciimjcdhallaaDoorLLLH2
import Derived.WalkKit
import Derived.WalkSpells
import Derived.WalkLawsBesides
import Derived.Laws.CopyOwn
import Derived.Deep.Draws
import Derived.Deep.QuietTactic
import Derived.BigQuiet
import Derived.Laws.MathBits
import Derived.Shelf.Small.Bits
import Derived.Laws.BytesArg
import Derived.Lib.OthersKept
import Derived.Deep.RegionWith
import Derived.Laws.Externs
import Derived.WalkMore
import Derived.Deep.LoopGhost
import Derived.Deep.RegionHeld3
set_option linter.unusedVariables false
set_option linter.unusedSimpArgs false
namespace Go.Proofs.YtgciimjcdhallaaDoor.Li
open Go.RowKit Lb
/-- How many binary digits a number has. -/
def sz (n : Nat) : Nat := if n = 0 then 0 else n.log2 + 1
theorem sz_of {n s : Nat} (h1 : 2 ^ s ≤ n) (h2 : n < 2 ^ (s + 1)) : sz n = s + 1 := by
  have h0 : n ≠ 0 := by have := Nat.two_pow_pos s; omega
  unfold sz
  rw [if_neg h0]
  congr 1
  have a := Nat.log2_self_le h0
  have b : n < 2 ^ (n.log2 + 1) := Nat.lt_log2_self
  have c := (Nat.pow_lt_pow_iff_right (a := 2) (by omega)).1 (Nat.lt_of_le_of_lt a h2)
  have d := (Nat.pow_lt_pow_iff_right (a := 2) (by omega)).1 (Nat.lt_of_le_of_lt h1 b)
  omega
theorem sz_lenB {l : List Nat} (hm : Lim l) (hn : Nrm l) : lenB l = sz (val l) := by
  have h1 := nl_nrm hn
  by_cases h0 : nl l = 0
  · have : l = [] := List.length_eq_zero_iff.1 (by omega)
    subst this
    rfl
  · have a := val_lt_len l hm
    have b := val_ge_len l h0
    have c : 0 < lenB l := by
      rcases Nat.eq_zero_or_pos (lenB l) with h | h
      · rw [h] at a b
        simp at a b
        omega
      · exact h
    obtain ⟨s, hs⟩ : ∃ s, lenB l = s + 1 := ⟨lenB l - 1, by omega⟩
    rw [hs] at a b ⊢
    exact (sz_of b a).symm
theorem sz_lt (n : Nat) : n < 2 ^ sz n := by
  unfold sz
  split
  · rename_i h; subst h; decide
  · exact Nat.lt_log2_self
theorem sz_ge {n : Nat} (h : 0 < n) : 2 ^ (sz n - 1) ≤ n ∧ 0 < sz n := by
  unfold sz
  rw [if_neg (by omega)]
  exact ⟨Nat.log2_self_le (by omega), by omega⟩
theorem sz_le {n k : Nat} (h : n < 2 ^ k) : sz n ≤ k := by
  rcases Nat.eq_zero_or_pos n with h0 | h0
  · subst h0; unfold sz; simp
  · have a := (sz_ge h0).1
    have b := (Nat.pow_lt_pow_iff_right (a := 2) (by omega)).1 (Nat.lt_of_le_of_lt a h)
    omega
theorem Nv.few {w : World} {v : Value} {n k : Nat} (h : Nv w v n) (hn : n < 4294967296 ^ k) : ∃ a c l, v = .slice a l.length c ∧ l.length ≤ c ∧ Rd w a l ∧ Lim l ∧ Nrm l ∧ val l = n ∧ l.length ≤ k := by
  obtain ⟨a, c, l, e, h1, h2, h3, h4, h5⟩ := h
  exact ⟨a, c, l, e, h1, h2, h3, h4, h5, len_of h4 (by rw [h5]; exact hn)⟩
theorem size_nv (v : Value) (n k : Nat) (w : World) (h : Nv w v n) (hn : n < 4294967296 ^ k) (hk : k ≤ 1000) :
    Calls Tryd.prog 50 #[v] w fun e w' => e = .returned (.int .i64 (sz n : Nat)) ∧ Keep w w' := by
  obtain ⟨a, c, l, rfl, h1, h2, h3, h4, h5, h6⟩ := h.few hn
  have := size_any a c l w (by omega) h2 h3 h4
  rw [sz_lenB h3 h4, h5] at this
  exact this
theorem cmp_nv (v1 v2 : Value) (x y k : Nat) (w : World) (h : Nv w v1 x) (g : Nv w v2 y) (hx : x < 4294967296 ^ k) (hy : y < 4294967296 ^ k) (hk : k ≤ 1000) :
    Calls Tryd.prog 52 #[v1, v2] w fun e w' => e = .returned (.int .i64 (cmpN x y)) ∧ Keep w w' := by
  obtain ⟨a, c, l, rfl, h1, h2, h3, h4, h5, h6⟩ := h.few hx
  obtain ⟨b, d, m, rfl, g1, g2, g3, g4, g5, g6⟩ := g.few hy
  have := cmp_any a b c d l m w (by omega) (by omega) h2 g2
  rw [cmpL_eq l m h3 g3 h4 g4, h5, g5] at this
  refine this.mono ?_
  rintro e w' ⟨rfl, hd⟩
  exact ⟨rfl, hd.keep⟩
set_option maxHeartbeats 400000 in
theorem up_nil (a : Option Addr) (c n : Nat) (w : World) :
    Calls Tryd.prog 53 #[.slice a 0 c, .int .i64 (n : Nat)] w fun e w' => e = .returned (.slice none 0 0) ∧ Keep w w' := by
  go_enter Tryd.func53, Tryd.ntmps53
  go_wp2
  go_ret
  exact ⟨rfl, Keep.refl _⟩
theorem up_nv (v : Value) (x n k : Nat) (w : World) (h : Nv w v x) (hx : x < 4294967296 ^ k) (hk : k ≤ 1000) (hn : n ≤ 1048576) :
    Calls Tryd.prog 53 #[v, .int .i64 (n : Nat)] w fun e w' => ∃ v, e = .returned v ∧ Nv w' v (x * 2 ^ n) ∧ Keep w w' := by
  obtain ⟨a, c, l, rfl, h1, h2, h3, h4, h5, h6⟩ := h.few hx
  rcases Nat.eq_zero_or_pos l.length with h0 | h0
  · have e := List.length_eq_zero_iff.1 h0
    subst e
    have e2 : x = 0 := by rw [← h5]; rfl
    subst e2
    refine (up_nil a c n w).mono ?_
    rintro e w' ⟨rfl, hk'⟩
    exact ⟨_, rfl, ⟨none, 0, [], rfl, by simp, Rd.nil _ _, by intro x hx; simp at hx, by simp [Nrm], by simp [val]⟩, hk'⟩
  · have := up_any a c n l w h0 (by omega) hn h2 h3
    rw [h5] at this
    exact this
theorem Size_nv (v : Value) (n k : Nat) (w : World) (h : Nv w v n) (hn : n < 4294967296 ^ k) (hk : k ≤ 1000) :
    Calls Tryd.prog 34 #[v] w fun e w' => e = .returned (.int .i64 (sz n : Nat)) ∧ Keep w w' := by
  have h := size_nv v n k w h hn hk
  clear hn
  go_enter Tryd.func34, Tryd.ntmps34
  go_wp2_with fail
  refine h.mono ?_
  rintro e w' ⟨rfl, h2⟩
  go_wp2_with fail
  go_ret
  exact ⟨rfl, h2⟩
theorem Cmp_nv (v1 v2 : Value) (x y k : Nat) (w : World) (h : Nv w v1 x) (g : Nv w v2 y) (hx : x < 4294967296 ^ k) (hy : y < 4294967296 ^ k) (hk : k ≤ 1000) :
    Calls Tryd.prog 36 #[v1, v2] w fun e w' => e = .returned (.int .i64 (cmpN x y)) ∧ Keep w w' := by
  have h := cmp_nv v1 v2 x y k w h g hx hy hk
  clear hx hy
  go_enter Tryd.func36, Tryd.ntmps36
  go_wp2_with fail
  refine h.mono ?_
  rintro e w' ⟨rfl, h2⟩
  go_wp2_with fail
  go_ret
  exact ⟨rfl, h2⟩
theorem Up_nv (v : Value) (x n k : Nat) (w : World) (h : Nv w v x) (hx : x < 4294967296 ^ k) (hk : k ≤ 1000) (hn : n ≤ 1048576) :
    Calls Tryd.prog 37 #[v, .int .i64 (n : Nat)] w fun e w' => ∃ v, e = .returned v ∧ Nv w' v (x * 2 ^ n) ∧ Keep w w' := by
  have h := up_nv v x n k w h hx hk hn
  clear hx
  go_enter Tryd.func37, Tryd.ntmps37
  go_wp2_with fail
  refine h.mono ?_
  rintro e w' ⟨v, rfl, h1, h2⟩
  go_wp2_with fail
  go_ret
  exact ⟨_, rfl, h1, h2⟩
end Go.Proofs.YtgciimjcdhallaaDoor.Li
