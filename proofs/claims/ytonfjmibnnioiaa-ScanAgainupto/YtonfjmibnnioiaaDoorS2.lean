import Derived.Test.YtonfjmibnnioiaaDoorS1
import Derived.Test.YtonfjmibnnioiaaDoorShelf
set_option linter.unusedVariables false
set_option linter.unusedSimpArgs false
namespace Go.Proofs.YtonfjmibnnioiaaDoor
open Go.RowKit Go.Shelf
theorem String_any (w0 : World) (l : List UInt8) (w : World) (h : Bd w0 l w) : Calls Tryd.prog 45 #[.pointer (some ⟨w0.heap.size, 0, none⟩)] w fun e w' => e = .returned (.string ⟨l.toArray⟩) ∧ Keep w0 w' :=
  (Tryd.Builder_String_any w0.heap.size w0.heap.size l w h.2 h.1.le).mono fun e w' ⟨h1, h2⟩ => ⟨h1, Below.trans h.1 h2⟩
theorem HasPrefix_any (l p : List UInt8) (w : World) : Calls Tryd.prog 52 #[.string ⟨l.toArray⟩, .string ⟨p.toArray⟩] w fun e w' => e = .returned (.bool (p.isPrefixOf l)) ∧ w' = w := by
  have := Tryd.strings_HasPrefix ⟨l.toArray⟩ ⟨p.toArray⟩ w
  rw [dt_mk, dt_mk] at this
  exact this
/-- Where a byte stands first. -/
def ixB (l : List UInt8) (c : UInt8) : Int := if c ∈ l then ((l.takeWhile (· ≠ c)).length : Nat) else -1
theorem ix_eq : ∀ (l : List UInt8) (c : UInt8), Lib.indexByte l c = ixB l c
  | [], c => rfl
  | b :: l, c => by
    have ih := ix_eq l c
    unfold Lib.indexByte
    rw [ih]
    unfold ixB
    by_cases h : b = c
    · subst h; simp
    · have h' : ¬ c = b := fun e => h e.symm
      have e1 : (b == c) = false := by simpa using h
      have e2 : (b :: l).takeWhile (· ≠ c) = b :: l.takeWhile (· ≠ c) := by rw [List.takeWhile_cons, if_pos (by simpa using h)]
      rw [e1, e2]
      by_cases hm : c ∈ l
      · have hm' : c ∈ b :: l := List.mem_cons_of_mem _ hm
        simp only [if_pos hm, if_pos hm', Bool.false_eq_true, if_false, List.length_cons]
        rw [if_neg (by rw [beq_iff_eq]; omega)]
        omega
      · have hm' : ¬ c ∈ b :: l := by simp [h', hm]
        simp only [if_neg hm, if_neg hm', Bool.false_eq_true, if_false]
        rfl
theorem IndexByte_any (l : List UInt8) (c : UInt8) (w : World) : Calls Tryd.prog 60 #[.string ⟨l.toArray⟩, .int .u8 (c.toNat : Nat)] w fun e w' => e = .returned (.int .i64 (ixB l c)) ∧ w' = w := by
  have := Tryd.strings_IndexByte ⟨l.toArray⟩ (c.toNat : Int) w
  rw [dt_mk, ix_eq] at this
  have e : ((c.toNat : Int)).toNat.toUInt8 = c := by simp
  rw [e] at this
  exact this
theorem Clone_any (l : List UInt8) (w : World) (h : l.length ≤ 1099511627776) : Calls Tryd.prog 31 #[.string ⟨l.toArray⟩] w fun e w' => e = .returned (.string ⟨l.toArray⟩) ∧ Keep w w' := by
  have hc := Tryd.stringslite_Clone ⟨l.toArray⟩ w (by rw [sz_mk]; omega)
  go_enter Tryd.func31, Tryd.ntmps31
  go_wp2_with (go_at_call 53; refine hc.mono ?_; rintro e w1 ⟨rfl, k1⟩)
  go_ret
  exact ⟨rfl, k1⟩
end Go.Proofs.YtonfjmibnnioiaaDoor
