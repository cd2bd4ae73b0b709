import Derived.Test.YteonapeoeckhfaaDoorP2
set_option linter.unusedVariables false
set_option linter.unusedSimpArgs false
namespace Go.Proofs.YteonapeoeckhfaaDoor
open Go.RowKit Go.Shelf
theorem PO.len {W : World} {g : Nat} {l T : List UInt8} {w w' : World} {e : Ending} (h : PO W g l T w e w') (hf : l.length + T.length ≤ 16777216) : e = .returned (.tuple #[]) ∧ Pp W w' g (l ++ T) ∧ Kw W.heap.size g w w' := ⟨(h.1 hf).1, (h.1 hf).2, h.2.2⟩
theorem PO.not {W : World} {g : Nat} {l T : List UInt8} {w w' : World} {e : Ending} (h : PO W g l T w e w') (hf : ¬ l.length + T.length ≤ 16777216) : e = .panicked [PE 4 0] ∧ Kw W.heap.size g w w' := ⟨h.2.1 hf, h.2.2⟩
theorem PO.bad {W : World} {g : Nat} {l T : List UInt8} {w w' : World} (h : ¬ l.length + T.length ≤ 16777216) (k : Kw W.heap.size g w w') : PO W g l T w (.panicked [PE 4 0]) w' := ⟨fun q => absurd q h, fun _ => rfl, k⟩
theorem PO.ok {W : World} {g : Nat} {l T : List UInt8} {w w' : World} (h : l.length + T.length ≤ 16777216) (p : Pp W w' g (l ++ T)) (k : Kw W.heap.size g w w') : PO W g l T w (.returned (.tuple #[])) w' := ⟨fun _ => ⟨rfl, p⟩, fun q => absurd h q, k⟩
theorem run_one (l : List UInt8) (i : Nat) (h : i < l.length) (w : World) : (Instr.slice 9 (.string ⟨l.toArray⟩) (some (.int .i64 (i : Int))) (some (.int .i64 ((i : Int) + 1))) none).run Tryd.prog w = .ok (.string ⟨[l.getD i 0].toArray⟩) w := by
  rw [run_slice_string w 9 _ .i64 .i64 (i : Int) ((i : Int) + 1) Tryd.underlying9 (by omega) (by omega) (by rw [sz_mk]; omega)]
  have e1 : ((i : Int)).toNat = i := by omega
  have e2 : ((i : Int) + 1).toNat = i + 1 := by omega
  rw [e1, e2, ByteArray.extract_mk]
  congr 2
  have : l.getD i 0 = l[i] := by simp [List.getD, h]
  rw [this]
  apply congrArg
  apply Array.ext'
  simp
  rw [List.drop_eq_getElem_cons h, List.take_succ_cons, List.take_zero]
theorem flat_take (l : List UInt8) {i : Nat} (h : i < l.length) : (l.take (i + 1)).flatMap wrt = (l.take i).flatMap wrt ++ wrt (l.getD i 0) := by
  have : l.getD i 0 = l[i] := by simp [List.getD, h]
  rw [this, List.take_succ_eq_append_getElem h, List.flatMap_append]
  simp
theorem flat_le (l : List UInt8) (i : Nat) : ((l.take i).flatMap wrt).length ≤ (l.flatMap wrt).length := by
  have e : l.flatMap wrt = (l.take i).flatMap wrt ++ (l.drop i).flatMap wrt := by rw [← List.flatMap_append, List.take_append_drop]
  rw [e, List.length_append]; omega
theorem wrt_len (b : UInt8) : (wrt b).length ≤ 6 := by
  unfold wrt
  repeat' split
  all_goals simp
set_option maxRecDepth 100000 in
set_option maxHeartbeats 4000000 in
theorem quote_any (hI : IxC) (W : World) (g : Nat) (l s : List UInt8) (w : World) (h : Pp W w g l) (hl : l.length ≤ 16777216) (hs : s.length ≤ 140737488355328) :
    Calls Tryd.prog 54 #[.pointer (some ⟨g, 0, none⟩), .string ⟨s.toArray⟩] w (PO W g l (qt s) w) := by
  have hsz : (ByteArray.mk s.toArray).size = s.length := sz_mk s
  have hA := write_any W g l [34] w h hl (by simp)
  have hq : (qt s).length = 1 + (s.flatMap wrt).length + 1 := by unfold qt; simp only [List.length_append, List.length_cons, List.length_nil]
  by_cases f1 : l.length + [(34 : UInt8)].length ≤ 16777216
  · obtain ⟨n, hn⟩ : ∃ n, s.length = n := ⟨_, rfl⟩
    have HN : Hid (s.length = n) := hn
    rw [hn] at hsz hs
    have F1 : Hid (l.length + 1 ≤ 16777216) := f1
    have HQ : Hid ((qt s).length = 1 + (s.flatMap wrt).length + 1) := hq
    clear hn hq h
    go_enter Tryd.func54, Tryd.ntmps54
    go_wp2_with (go_at_call 53; refine hA.mono ?_; clear hA; rintro e w1 hp; obtain ⟨rfl, p1, k1⟩ := hp.len f1; clear hp f1; replace p1 : Hid _ := p1)
    go_loopg [9] n (fun gg s9 wx => ∃ i : Nat, i ≤ n ∧ gg = n - i ∧ s9 = .int .i64 i ∧ Hid (l.length + 1 + ((s.take i).flatMap wrt).length ≤ 16777216) ∧ Hid (Pp W wx g (l ++ [34] ++ (s.take i).flatMap wrt)) ∧ Kw W.heap.size g w wx)
    case atStart => exact ⟨0, by omega, by omega, rfl, F1, by show Pp _ _ _ _; simpa using p1.out, k1⟩
    case round =>
      obtain ⟨i, hi, rfl, rfl, hfl, hP, kx⟩ := hrel
      by_cases hil : i < n
      · have hil2 : i < s.length := by rw [HN.out]; exact hil
        have hone := run_one s i hil2
        have hft := flat_take s hil2
        have hi1 : IntKind.i64.wrap ((i : Int) + 1) = (i : Int) + 1 := by rw [IntWalk.i64_left]; exact IntWalk.wrap64_in _ (by omega)
        generalize s.getD i 0 = b at hone hft
        have hW := fun wx => written_any hI b wx
        have hwl := wrt_len b
        have hV := fun wx (kk : Keep wr wx) => write_any W g (l ++ [34] ++ (s.take i).flatMap wrt) (wrt b) wx (hP.out.keep kk) (by have := hfl.out; simp only [List.length_append, List.length_cons, List.length_nil]; omega) (by omega)
        have HW := hW wr
        clear hW
        by_cases f2 : l.length + 1 + ((s.take (i + 1)).flatMap wrt).length ≤ 16777216
        · have F2 : Hid (l.length + 1 + ((s.take (i + 1)).flatMap wrt).length ≤ 16777216) := f2
          have f3 : (l ++ [34] ++ (s.take i).flatMap wrt).length + (wrt b).length ≤ 16777216 := by rw [hft] at f2; simp only [List.length_append, List.length_cons, List.length_nil] at f2 ⊢; omega
          have HE : Hid (l ++ [34] ++ (s.take i).flatMap wrt ++ wrt b = l ++ [34] ++ (s.take (i + 1)).flatMap wrt) := by show _ = _; rw [hft]; simp
          clear hft hwl f2
          go_wp2_with (first
            | (go_at_call 67; refine HW.mono ?_; clear HW; rintro e w2 ⟨rfl, k2⟩; have HV := hV w2 k2; clear hV)
            | (go_at_call 53; refine HV.mono ?_; clear HV; rintro e w3 hp; obtain ⟨rfl, p3, k3⟩ := hp.len f3; clear hp f3; rw [HE.out] at p3; replace p3 : Hid _ := p3))
          go_roundg (n - (i + 1))
          case measure => omega
          case rel => exact ⟨i + 1, by omega, rfl, by go_num, F2, p3, (kx.trans (Kw.of_keep k2)).trans k3⟩
        · have HB : Hid (¬ l.length + (qt s).length ≤ 16777216) := by
            have h1 := flat_le s (i + 1)
            have h2 := HQ.out
            show ¬ _
            omega
          have f3 : ¬ (l ++ [34] ++ (s.take i).flatMap wrt).length + (wrt b).length ≤ 16777216 := by rw [hft] at f2; simp only [List.length_append, List.length_cons, List.length_nil] at f2 ⊢; omega
          clear hft hwl f2
          go_wp2_with (first
            | (go_at_call 67; refine HW.mono ?_; clear HW; rintro e w2 ⟨rfl, k2⟩; have HV := hV w2 k2; clear hV)
            | (go_at_call 53; refine HV.mono ?_; clear HV; rintro e w3 hp; obtain ⟨rfl, k3⟩ := hp.not f3; clear hp f3))
          exact ⟨rfl, PO.bad HB.out ((kx.trans (Kw.of_keep k2)).trans k3)⟩
      · obtain rfl : i = n := by omega
        have HT : Hid (s.take i = s) := by show _ = _; rw [← HN.out]; exact List.take_length
        rw [HT.out] at hfl hP
        have hZ := write_any W g (l ++ [34] ++ s.flatMap wrt) [34] wr hP.out (by have := hfl.out; simp only [List.length_append, List.length_cons, List.length_nil]; omega) (by simp)
        have HE : Hid (l ++ [34] ++ s.flatMap wrt ++ [34] = l ++ qt s) := by show _ = _; unfold qt; simp
        by_cases f2 : (l ++ [34] ++ s.flatMap wrt).length + [(34 : UInt8)].length ≤ 16777216
        · have HO : Hid (l.length + (qt s).length ≤ 16777216) := by
            have h2 := HQ.out
            simp only [List.length_append, List.length_cons, List.length_nil] at f2
            show _ ≤ _
            omega
          go_wp2_with (go_at_call 53; refine hZ.mono ?_; clear hZ; rintro e w3 hp; obtain ⟨rfl, p3, k3⟩ := hp.len f2; clear hp f2; rw [HE.out] at p3; replace p3 : Hid _ := p3)
          go_end0
          exact PO.ok HO.out p3.out (kx.trans k3)
        · have HB : Hid (¬ l.length + (qt s).length ≤ 16777216) := by
            have h2 := HQ.out
            simp only [List.length_append, List.length_cons, List.length_nil] at f2
            show ¬ _
            omega
          go_wp2_with (go_at_call 53; refine hZ.mono ?_; clear hZ; rintro e w3 hp; obtain ⟨rfl, k3⟩ := hp.not f2; clear hp f2)
          exact ⟨rfl, PO.bad HB.out (kx.trans k3)⟩
  · have HB : Hid (¬ l.length + (qt s).length ≤ 16777216) := by simp at f1; show ¬ _; omega
    clear hq h
    go_enter Tryd.func54, Tryd.ntmps54
    go_wp2_with (go_at_call 53; refine hA.mono ?_; clear hA; rintro e w1 hp; obtain ⟨rfl, k1⟩ := hp.not f1)
    exact ⟨rfl, PO.bad HB.out k1⟩
end Go.Proofs.YteonapeoeckhfaaDoor
