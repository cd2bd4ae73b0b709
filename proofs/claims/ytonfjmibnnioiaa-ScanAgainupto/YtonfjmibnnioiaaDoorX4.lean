import Derived.Test.YtonfjmibnnioiaaDoorX3
set_option linter.unusedVariables false
set_option linter.unusedSimpArgs false
namespace Go.Proofs.YtonfjmibnnioiaaDoor
open Go.RowKit Go.Shelf
theorem pf_two (l : List UInt8) : ([13, 10] : List UInt8).isPrefixOf l = decide (l.take 2 = [13, 10]) := by
  match l with
  | [] => rfl
  | [c] => simp [List.isPrefixOf]
  | c :: d :: r =>
    rw [Bool.eq_iff_iff]
    simp [List.isPrefixOf]
    exact ⟨fun h => ⟨h.1.symm, h.2.symm⟩, fun h => ⟨h.1.symm, h.2.symm⟩⟩
set_option maxRecDepth 100000 in
theorem firstLine_any (l : List UInt8) (w : World) (hs : l.length ≤ 4294967000) : Calls Tryd.prog 30 #[.string ⟨l.toArray⟩] w fun e w' => e = .returned (.tuple #[.string ⟨(lnT l).toArray⟩, .int .i64 (lnE l : Nat)]) ∧ Keep w w' := by
  have hI := IndexAny_any l w hs
  have hsz := sz_mk l
  unfold nlI at hI
  by_cases h : (lnT l).length = l.length
  · rw [if_pos h] at hI
    have e1 : lnT l = l := by rw [lnT_take l, h, List.take_length]
    have e2 : lnE l = 0 := by unfold lnE; rw [if_pos (by rw [h, List.drop_length])]
    rw [e1, e2]
    clear h e1 e2
    go_enter Tryd.func30, Tryd.ntmps30
    go_wp2_with (go_at_call 51; refine hI.mono ?_; rintro e' w2 ⟨rfl, k2⟩)
    go_ret2
    exact ⟨rfl, k2⟩
  · rw [if_neg h] at hI
    have hle := lnT_le l
    have hne : ¬ l.drop (lnT l).length = [] := fun e => by
      have := congrArg List.length e
      rw [List.length_drop, List.length_nil] at this
      omega
    have hs1 := run_upto l (lnT l).length hle
    rw [← lnT_take] at hs1
    have hs2 := run_from l (lnT l).length hle
    have hP := fun wx => HasPrefix_any (l.drop (lnT l).length) [13, 10] wx
    rw [pf_two] at hP
    have hpos : (((lnT l).length : Int) < 0) = False := by simp
    by_cases h2 : (l.drop (lnT l).length).take 2 = [13, 10]
    · have e2 : lnE l = 2 := by unfold lnE; rw [if_neg hne, if_pos h2]
      rw [decide_eq_true h2] at hP
      rw [e2]
      clear h h2 hne e2
      generalize l.drop (lnT l).length = q at *
      generalize lnT l = t at *
      go_enter Tryd.func30, Tryd.ntmps30
      go_wp2_with (first
        | rw [hs1]
        | rw [hs2]
        | (go_at_call 51; refine hI.mono ?_; rintro e' w2 ⟨rfl, k2⟩)
        | (go_at_call 52; refine (hP _).mono ?_; rintro e' w0 ⟨rfl, hw0⟩; rw [hw0]; clear hw0))
      go_ret2
      exact ⟨rfl, k2⟩
    · have e2 : lnE l = 1 := by unfold lnE; rw [if_neg hne, if_neg h2]
      rw [decide_eq_false h2] at hP
      rw [e2]
      clear h h2 hne e2
      generalize l.drop (lnT l).length = q at *
      generalize lnT l = t at *
      go_enter Tryd.func30, Tryd.ntmps30
      go_wp2_with (first
        | rw [hs1]
        | rw [hs2]
        | (go_at_call 51; refine hI.mono ?_; rintro e' w2 ⟨rfl, k2⟩)
        | (go_at_call 52; refine (hP _).mono ?_; rintro e' w0 ⟨rfl, hw0⟩; rw [hw0]; clear hw0))
      go_ret2
      exact ⟨rfl, k2⟩
theorem i46 : (Tryd.prog.info? 46).map (fun i => (i.zero, i.size, i.bytes)) = some (some (.agg #[.int .i64 0, .int .i64 0, .string ⟨#[]⟩]), 3, 32) := by kernel_rfl
abbrev Rw' := Nat × Nat × List UInt8
/-- Lines as cells. -/
def RvL : List Rw' → List Value
  | [] => []
  | c :: l => .int .i64 (c.1 : Nat) :: .int .i64 (c.2.1 : Nat) :: .string ⟨c.2.2.toArray⟩ :: RvL l
theorem RvL_len : ∀ l, (RvL l).length = l.length * 3
  | [] => rfl
  | c :: l => by simp [RvL, RvL_len l]; omega
theorem RvL_app : ∀ l m, RvL (l ++ m) = RvL l ++ RvL m
  | [], m => rfl
  | c :: l, m => by simp [RvL, RvL_app l m]
def r00 : Rw' := (0, 0, [])
theorem RvL_get : ∀ (l : List Rw') (j : Nat), j < l.length → (RvL l)[j * 3]? = some (.int .i64 ((l.getD j r00).1 : Nat)) ∧ (RvL l)[j * 3 + 1]? = some (.int .i64 ((l.getD j r00).2.1 : Nat)) ∧ (RvL l)[j * 3 + 2]? = some (.string ⟨(l.getD j r00).2.2.toArray⟩)
  | c :: l, 0, _ => ⟨rfl, rfl, rfl⟩
  | c :: l, j + 1, h => by
    have := RvL_get l j (by simpa using h)
    rw [show (j + 1) * 3 = j * 3 + 3 by omega]
    simpa [RvL] using this
/-- A list of lines of one's own. -/
def OwnR (B : Nat) (v : Value) (L : List Rw') (w : World) : Prop := w.ownsRow B 46 3 v L.length (RvL L)
set_option maxRecDepth 100000 in
set_option maxHeartbeats 2000000 in
theorem Rows_any (l : List UInt8) (w : World) (hs : l.length ≤ 4294967000) : Calls Tryd.prog 12 #[.string ⟨l.toArray⟩] w fun e w' => ∃ v, e = .returned v ∧ OwnR w.heap.size v (rwA 0 0 l) w' ∧ Keep w w' := by
  obtain ⟨R, hR⟩ : ∃ R, rwA 0 0 l = R := ⟨_, rfl⟩
  rw [hR]
  have hsz := sz_mk l
  have HR : Hid ([] ++ rwA 0 0 (l.drop 0) = R) := by unfold Hid; rw [List.drop_zero]; exact hR
  clear hR
  go_enter Tryd.func12, Tryd.ntmps12
  go_wp2_with fail
  go_loopw [3, 4] (fun vl at' wr => ∃ (k : Nat) (acc : List Rw'), at' = .int .i64 k ∧ k ≤ l.length ∧ acc.length ≤ k ∧ Keep w wr ∧ OwnR w.heap.size vl acc wr ∧ Hid (acc ++ rwA acc.length k (l.drop k) = R)) (fun _ at' _ => l.length - (intOf at').toNat)
  case atStart => exact ⟨0, [], rfl, by omega, by simp, Keep.refl w, own_nil _ _ _ _, HR⟩
  case round =>
    obtain ⟨k, acc, rfl, hk, hac, kw, hO, H⟩ := hrel
    clear HR
    obtain ⟨av, cv, rfl, hcv⟩ := own_len hO
    by_cases hlt : k < l.length
    · have hsl := run_from l k hk
      have hltc : decide ((k : Int) < (l.length : Int)) = true := decide_eq_true (by omega)
      have hne : l.drop k ≠ [] := fun e => by
        have := congrArg List.length e
        rw [List.length_drop, List.length_nil] at this
        omega
      have hC := H.out
      rw [rwA_cons _ _ _ hne, List.drop_drop] at hC
      have hF := firstLine_any (l.drop k) wr (by rw [List.length_drop]; omega)
      have hp := lnT_pos _ hne
      have hle := lnE_le (l.drop k)
      rw [List.length_drop] at hle
      generalize lnE (l.drop k) = m at *
      generalize lnT (l.drop k) = t at *
      have hCl := fun wx => Clone_any t wx (by omega)
      have hst := sz_mk t
      have htb : t.length ≤ 4294967000 := by omega
      have hmb : m ≤ 4294967000 := by omega
      have hkb : k ≤ 4294967000 := by omega
      have hab : acc.length ≤ 4294967000 := by omega
      have HK : Hid (k < l.length ∧ 1 ≤ t.length + m ∧ t.length + m ≤ l.length - k) := ⟨hlt, hp, hle⟩
      have hC' : Hid ((acc ++ [(acc.length + 1, k, t)]) ++ rwA (acc ++ [(acc.length + 1, k, t)]).length (k + (t.length + m)) (l.drop (k + (t.length + m))) = R) := by
        unfold Hid; rw [← hC, List.length_append, List.length_singleton]; simp
      replace hO : Hid _ := hO
      replace kw : Hid _ := kw
      replace hac : Hid _ := hac
      clear H hC hp hle hne
      go_wp2_with (first
        | rw [hsl]
        | rw [hw6]
        | (go_at_call 30; refine hF.mono ?_; rintro e' w2 ⟨rfl, k2⟩)
        | (go_at_call 31; refine (hCl _).mono ?_; rintro e' w3 ⟨rfl, k3⟩
           obtain ⟨w6, hw6, k6, t6, s6⟩ := boxed w3 #[.int .i64 ((acc.length : Int) + 1), .int .i64 (k : Nat), .string ⟨t.toArray⟩] 46
           have kx : Hid (Keep wr w6) := (k2.trans k3).trans k6)
        | (at_builtin; refine wpList_appG Tryd.underlying24 i46 (by kernel_rfl) (by decide) (by decide) w.heap.size _ rfl _ _ rfl acc.length (RvL acc) [.int .i64 ((acc.length : Int) + 1), .int .i64 (k : Nat), .string ⟨t.toArray⟩] _ rfl (own_keep hO.out kx.out) (Keep.trans kw.out kx.out).le ⟨w3.heap.size, 0, none⟩ 1 rfl rfl (at3 t6) (one3 rfl rfl rfl) (by omega) ?_; intro v7 w7 hO7 hg7
           have kf : Hid (Keep w w7) := keep_grown (Keep.trans kw.out kx.out) (own_keep hO.out kx.out) hg7
           have hOf : Hid (OwnR w.heap.size v7 (acc ++ [(acc.length + 1, k, t)]) w7) := by
             show World.ownsRow _ _ _ _ _ _ _
             rw [RvL_app, List.length_append, List.length_singleton]; exact hO7
           clear hO7 hg7))
      go_roundw
      case rel => exact ⟨k + (t.length + m), acc ++ [(acc.length + 1, k, t)], by go_num, by have := HK.out; omega, by rw [List.length_append, List.length_singleton]; have := HK.out; have := hac.out; omega, kf.out, hOf.out, hC'.out⟩
      case measure => have := HK.out; simp [intOf]; omega
    · have hltc : ¬ (k : Int) < (l.length : Int) := by omega
      obtain rfl : k = l.length := by omega
      have hC := H.out
      rw [List.drop_length, rwA_nil, List.append_nil] at hC
      replace hC : Hid _ := hC
      replace hO : Hid _ := hO
      replace kw : Hid _ := kw
      clear H
      go_wp2_with fail
      go_ret
      exact ⟨_, rfl, by rw [← hC.out]; exact hO.out, kw.out⟩
end Go.Proofs.YtonfjmibnnioiaaDoor
