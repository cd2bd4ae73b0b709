import Derived.Test.YtgciimjcdhallaaDoorR6
set_option linter.unusedVariables false
set_option linter.unusedSimpArgs false
namespace Go.Proofs.YtgciimjcdhallaaDoor
open Go.RowKit Go.Shelf
theorem qisDigit_any (c : UInt8) (w : World) : Calls Tryd.prog 47 #[.int .u8 (c.toNat : Int)] w fun e w' => e = .returned (.bool (isD c)) ∧ w = w' := by
  obtain ⟨x, hx⟩ : ∃ x, c.toNat = x := ⟨_, rfl⟩
  obtain ⟨b1, e1⟩ : ∃ b, decide ((48 : Int) ≤ (x : Int)) = b := ⟨_, rfl⟩
  obtain ⟨b2, e2⟩ : ∃ b, decide ((x : Int) ≤ 57) = b := ⟨_, rfl⟩
  have H : Hid (isD c = (b1 && b2)) := by
    unfold Hid isD
    rw [hx, ← e1, ← e2, ← Bool.decide_and]
    congr 1
    apply propext
    omega
  rw [hx]
  generalize isD c = v at *
  cases b1 <;> cases b2 <;> (go_enter Tryd.func47, Tryd.ntmps47; go_wp2_with fail; go_ret; exact ⟨by rw [H.out]; rfl, rfl⟩)
set_option maxRecDepth 100000 in
set_option maxHeartbeats 2000000 in
theorem run_any (s : List UInt8) (k : Nat) (w : World) (hs : s.length ≤ 4096) (hk : k ≤ s.length) (ok : Bool) (hok : (dg s k s.length == []) = !ok) (k' : Nat) (hk' : k + (dg s k s.length).length = k') :
    Calls Tryd.prog 30 #[.string ⟨s.toArray⟩, .int .i64 (k : Int), .bool false] w fun e w' => e = .returned (.tuple #[.int .i64 (k' : Int), .bool ok]) ∧ w = w' := by
  have s1 : (ByteArray.mk s.toArray).size = s.length := sz_mk s
  obtain ⟨L, hL⟩ : ∃ L, s.length = L := ⟨_, rfl⟩
  rw [hL] at s1 hs hk
  have HL : Hid (s.length = L) := hL
  have HK : Hid (k + (dg s k s.length).length = k') := hk'
  have HO : Hid ((dg s k s.length == []) = !ok) := hok
  clear hL hk' hok
  go_enter Tryd.func30, Tryd.ntmps30
  go_wp2_with fail
  go_loopg [1] (L) (fun g v5 wx => ∃ m j : Nat, m + g = L + k ∧ m = k + j ∧ m ≤ L ∧ v5 = .int .i64 (m : Int) ∧ (∀ i, i < j → k + i < s.length ∧ isD (s.getD (k + i) 0) = true) ∧ wx = w)
  case atStart => exact ⟨k, 0, by omega, by omega, by omega, rfl, fun i hi => by omega, rfl⟩
  case round =>
    obtain ⟨m, j, hmg, hmj, hmL, rfl, hdd, rfl⟩ := hrel
    have HD : Hid (∀ i, i < j → k + i < s.length ∧ isD (s.getD (k + i) 0) = true) := hdd
    have HMJ : Hid (m = k + j) := hmj
    clear hdd hmj
    have fin : ¬ (m < s.length ∧ isD (s.getD m 0) = true) → m = k' ∧ ((k : Int) < (m : Int)) = (ok = true) := by
      intro hn
      have HE := dg_all s k j (by have := HMJ.out; have := HL.out; omega) HD.out (by rw [← HMJ.out]; exact hn)
      have e1 : m = k' := by rw [← HK.out, HE.2]; exact HMJ.out
      refine ⟨e1, ?_⟩
      have h1 := HO.out
      have h2 := HMJ.out
      apply propext
      cases ok
      · have : dg s k s.length = [] := by simpa using h1
        rw [this] at HE
        have : j = 0 := by have := HE.2; simp at this; omega
        constructor
        · intro q; omega
        · intro q; cases q
      · have h3 : ¬ dg s k s.length = [] := by simpa using h1
        have : j ≠ 0 := fun q => h3 (List.length_eq_zero_iff.1 (by rw [HE.2, q]))
        constructor
        · intro q; rfl
        · intro q; omega
    by_cases hml : m < L
    · have hml2 : m < s.length := by have := HL.out; omega
      have hix := fun wx => run_ix s m hml2 wx
      obtain ⟨c, hc⟩ : ∃ c, s.getD m 0 = c := ⟨_, rfl⟩
      rw [hc] at hix
      have hI := fun wx => qisDigit_any c wx
      have hmI : (m : Int) < (L : Int) := by omega
      by_cases hd : isD c = true
      · rw [hd] at hI
        have HD2 : Hid (∀ i, i < j + 1 → k + i < s.length ∧ isD (s.getD (k + i) 0) = true) := by
          intro i hi
          by_cases e : i = j
          · rw [e, ← HMJ.out, hc]; exact ⟨hml2, hd⟩
          · exact HD.out i (by omega)
        clear hc hd hml2 fin
        go_wp2_with (go_at_call 47; refine (hI _).mono ?_; rintro e w2 ⟨rfl, rfl⟩)
        go_roundg (gk - 1)
        case measure => omega
        case rel => exact ⟨m + 1, j + 1, by omega, by have := HMJ.out; omega, by omega, by simp, HD2.out, rfl⟩
      · have hd2 : isD c = false := by simpa using hd
        rw [hd2] at hI
        obtain ⟨e1, e2⟩ := fin (by rintro ⟨-, a⟩; rw [hc] at a; exact hd a)
        have e3 : decide ((k : Int) < (m : Int)) = ok := by simp only [e2]; simp
        replace e1 : Hid _ := e1
        replace e2 : Hid _ := e2
        clear hd hd2 hc fin hml2
        go_wp2_with (go_at_call 47; refine (hI _).mono ?_; rintro e w2 ⟨rfl, rfl⟩)
        all_goals (go_ret2; exact ⟨by rw [← e1.out, ← e3]; first | rfl | simp, rfl⟩)
    · obtain rfl : m = L := by omega
      obtain ⟨e1, e2⟩ := fin (by rintro ⟨a, -⟩; have := HL.out; omega)
      have e3 : decide ((k : Int) < (m : Int)) = ok := by simp only [e2]; simp
      replace e1 : Hid _ := e1
      replace e2 : Hid _ := e2
      clear fin
      go_wp2_with fail
      all_goals (go_ret2; exact ⟨by rw [← e1.out, ← e3]; first | rfl | simp, rfl⟩)
end Go.Proofs.YtgciimjcdhallaaDoor
