import Derived.Test.YteonapeoeckhfaaDoorQ8
set_option linter.unusedVariables false
set_option linter.unusedSimpArgs false
namespace Go.Proofs.YteonapeoeckhfaaDoor
open Go.RowKit Go.Shelf
set_option maxRecDepth 100000 in
theorem wr16 : ∀ X : Fin 32, IntKind.u8.wrap (((X.val : Nat) : Int) / 16) = ((X.val : Nat) : Int) / 16 := by decide
theorem tm16 : ∀ X : Fin 32, (((X.val : Nat) : Int)).tmod 16 = ((X.val : Nat) : Int) % 16 := by decide
set_option maxRecDepth 100000 in
set_option maxHeartbeats 8000000 in
theorem rquoted_any (s : List UInt8) (w : World) (hs : s.length ≤ 1099511627776) :
    Calls Tryd.prog 56 #[.string ⟨s.toArray⟩] w fun e w' => e = .returned (.string ⟨(qt s).toArray⟩) ∧ Keep w w' := by
  have hsz : (ByteArray.mk s.toArray).size = s.length := sz_mk s
  obtain ⟨n, hn⟩ : ∃ n, s.length = n := ⟨_, rfl⟩
  have HN : Hid (s.length = n) := hn
  rw [hn] at hsz hs
  clear hn
  obtain ⟨wA, hwA⟩ : ∃ wA, wA = w.alloc (.cells #[.int .u8 34] 5) := ⟨_, rfl⟩
  obtain ⟨w1, w2, w3, w4, w5, w6, w7, r1, r2, r3, r4, r5, r6, r7, k7, m7⟩ := names_made wA
  have hO0 : OwnB w.heap.size wA (.slice (some ⟨w.heap.size, 0, none⟩) 1 1) [34] := by rw [hwA]; exact own_made w [34] (by simp)
  have kA : Keep w wA := by rw [hwA]; exact (Keep.refl w).alloc _
  have hszA : wA.heap.size = w.heap.size + 1 := by rw [hwA]; exact World.size_alloc ..
  have hO7 := hO0.keep k7
  have HQ7 : QtK w.heap.size (w.heap.size + 1) w w7 := ⟨kA.trans k7, by omega, 7, by rw [← hszA]; exact m7⟩
  have hmk := run_makeMap81 wA
  rw [hszA] at hmk r1 r2 r3 r4 r5 r6 r7
  clear m7 k7 kA hszA hO0
  replace hO7 : Hid (OwnB w.heap.size w7 (.slice (some ⟨w.heap.size, 0, none⟩) 1 1) [34]) := hO7
  replace HQ7 : Hid _ := HQ7
  subst hwA
  go_enter Tryd.func56, Tryd.ntmps56
  go_wp2_with fail
  clear r1 r2 r3 r4 r5 r6 r7 hmk
  go_loopg [3, 5] n (fun gg s3 s5 wx => ∃ i : Nat, i ≤ n ∧ gg = n - i ∧ Hid (OwnB w.heap.size wx s3 ([34] ++ (s.take i).flatMap wrt)) ∧ s5 = .int .i64 i ∧ Hid (QtK w.heap.size (w.heap.size + 1) w wx))
  case atStart => exact ⟨0, by omega, by omega, hO7, rfl, HQ7⟩
  case round =>
    obtain ⟨i, hi, rfl, hO, rfl, hQ⟩ := hrel
    by_cases hil : i < n
    · have hil2 : i < s.length := by rw [HN.out]; exact hil
      have hat := run_at s i hil2
      have hft := flat_take s hil2
      have hi1 : IntKind.i64.wrap ((i : Int) + 1) = (i : Int) + 1 := by rw [IntWalk.i64_left]; exact IntWalk.wrap64_in _ (by omega)
      have hfl : ([34] ++ (s.take i).flatMap wrt : List UInt8).length ≤ 6 * n + 1 := by
        have h1 := flat_len (s.take i)
        have h2 : (s.take i).length ≤ n := by rw [List.length_take]; omega
        simp only [List.length_append, List.length_cons, List.length_nil]; omega
      have HFT : Hid ([34] ++ (s.take i).flatMap wrt ++ wrt (s.getD i 0) = [34] ++ (s.take (i + 1)).flatMap wrt) := by show _ = _; rw [hft]; simp
      clear hft
      generalize s.getD i 0 = b at hat HFT
      generalize ([34] ++ (s.take i).flatMap wrt : List UInt8) = L at hO hfl HFT
      obtain ⟨nm, hnm⟩ := hQ.out.nm
      have hlt := UInt8.toNat_lt b
      have hlk := hnm.look hlt
      obtain ⟨a0, c0, rfl⟩ := hO.out.shape
      have hsize := hQ.out.kp.size
      clear hnm
      by_cases hz : nmv b.toNat = 0
      · rw [hz] at hlk
        by_cases hlo : b.toNat < 32
        · have hwr := wrt_low hz hlo
          rw [hwr] at HFT
          obtain ⟨m, hm⟩ : ∃ m, b.toNat = m := ⟨_, rfl⟩
          rw [hm] at HFT hat hlk hlo hlt
          have x1 := hx_at (m / 16) (by omega) ((m : Int) / 16) (by omega)
          have x2 := hx_at (m % 16) (by omega) ((m : Int) % 16) (by omega)
          have hO2 := hO.out.keep ((Keep.refl wr).alloc (.cells (Lib.byteCells [92, 117, 48, 48, hxD (m / 16), hxD (m % 16)]).toArray 5)).drew
          obtain ⟨v8, w8, hr8, hO8, g8⟩ := appB_sep w.heap.size (wr.alloc (.cells (Lib.byteCells [92, 117, 48, 48, hxD (m / 16), hxD (m % 16)]).toArray 5)).drew 22 _ L [92, 117, 48, 48, hxD (m / 16), hxD (m % 16)] hO2 (by show _ ≤ (wr.alloc _).heap.size; rw [World.size_alloc]; omega) wr.heap.size 6 _ rfl (heap_alloc_new wr _) (by simp; omega)
          have hQ8 := (hQ.out.keep ((Keep.refl wr).alloc (.cells (Lib.byteCells [92, 117, 48, 48, hxD (m / 16), hxD (m % 16)]).toArray 5)).drew).app hO2 g8
          rw [HFT.out] at hO8
          replace hO8 : Hid _ := hO8
          replace hQ8 : Hid _ := hQ8
          simp only [Lib.byteCells, List.map_cons, List.map_nil, List.length_cons, List.length_nil] at hr8 hO8 hQ8
          have hlo2 : (m : Int) < 32 := by omega
          have hw1 := wr16 ⟨m, hlo⟩
          have hw2 := tm16 ⟨m, hlo⟩
          have hl1 : (m : Int) / 16 < 16 := by omega
          have hl2 : (m : Int) % 16 < 16 := by omega
          have hl3 : (0 : Int) ≤ (m : Int) / 16 := by omega
          have hl4 : (0 : Int) ≤ (m : Int) % 16 := by omega
          simp only at hw1 hw2
          clear hwr hO2 g8 hm hz
          generalize L.length = q at hr8
          go_wp2_with fail
          go_region_law (refine step_appRunB rfl _ _ rfl _ _ _ _ rfl rfl hr8 ?_)
          all_goals
            go_simp
            go_wp2_with fail
            go_roundg (n - (i + 1))
            case measure => omega
            case rel => exact ⟨i + 1, by omega, rfl, hO8, by go_num, hQ8⟩
        · have hwr := wrt_self hz hlo
          rw [hwr] at HFT
          have hO2 := hO.out.keep ((Keep.refl wr).alloc (.cells (Lib.byteCells [b]).toArray 5))
          obtain ⟨v8, w8, hr8, hO8, g8⟩ := appB_sep w.heap.size (wr.alloc (.cells (Lib.byteCells [b]).toArray 5)) 22 _ L [b] hO2 (by rw [World.size_alloc]; omega) wr.heap.size 1 _ rfl (heap_alloc_new wr _) (by simp; omega)
          have hQ8 := (hQ.out.keep ((Keep.refl wr).alloc (.cells (Lib.byteCells [b]).toArray 5))).app hO2 g8
          rw [HFT.out] at hO8
          replace hO8 : Hid _ := hO8
          replace hQ8 : Hid _ := hQ8
          obtain ⟨m, hm⟩ : ∃ m, b.toNat = m := ⟨_, rfl⟩
          simp only [Lib.byteCells, List.map_cons, List.map_nil, List.length_cons, List.length_nil] at hr8 hO8 hQ8 
          rw [hm] at hr8 hat hlk hlo hlt
          clear hwr hz hO2 g8 hm
          have hlo2 : ¬ (m : Int) < 32 := by omega
          generalize L.length = q at hr8
          go_wp2_with (at_builtin; refine wpList_appRunB rfl _ _ rfl _ _ _ _ rfl rfl hr8 ?_)
          go_roundg (n - (i + 1))
          case measure => omega
          case rel => exact ⟨i + 1, by omega, rfl, hO8, by go_num, hQ8⟩
      · have hwr := wrt_named hz
        have hlt2 := nmv_lt b.toNat
        rw [hwr] at HFT
        have hu : (UInt8.ofNat (nmv b.toNat)).toNat = nmv b.toNat := by rw [UInt8.toNat_ofNat']; exact Nat.mod_eq_of_lt hlt2
        have hO2 := hO.out.keep ((Keep.refl wr).alloc (.cells (Lib.byteCells [92, UInt8.ofNat (nmv b.toNat)]).toArray 5))
        obtain ⟨v8, w8, hr8, hO8, g8⟩ := appB_sep w.heap.size (wr.alloc (.cells (Lib.byteCells [92, UInt8.ofNat (nmv b.toNat)]).toArray 5)) 22 _ L [92, UInt8.ofNat (nmv b.toNat)] hO2 (by rw [World.size_alloc]; omega) wr.heap.size 2 _ rfl (heap_alloc_new wr _) (by simp; omega)
        have hQ8 := (hQ.out.keep ((Keep.refl wr).alloc (.cells (Lib.byteCells [92, UInt8.ofNat (nmv b.toNat)]).toArray 5))).app hO2 g8
        rw [HFT.out] at hO8
        replace hO8 : Hid _ := hO8
        replace hQ8 : Hid _ := hQ8
        simp only [Lib.byteCells, List.map_cons, List.map_nil, List.length_cons, List.length_nil, hu] at hr8 hO8 hQ8
        obtain ⟨m, hm⟩ : ∃ m, b.toNat = m := ⟨_, rfl⟩
        obtain ⟨r, hr⟩ : ∃ r, nmv b.toNat = r := ⟨_, rfl⟩
        rw [hr] at hr8 hlk hz hlt2
        rw [hm] at hat hlk hlt
        clear hwr hO2 g8 hm hu hr
        have hz2 : ¬ (r : Int) = 0 := by omega
        generalize L.length = q at hr8
        go_wp2_with (at_builtin; refine wpList_appRunB rfl _ _ rfl _ _ _ _ rfl rfl hr8 ?_)
        go_roundg (n - (i + 1))
        case measure => omega
        case rel => exact ⟨i + 1, by omega, rfl, hO8, by go_num, hQ8⟩
    · obtain rfl : i = n := by omega
      have hte : s.take i = s := List.take_of_length_le (by rw [HN.out]; exact Nat.le_refl _)
      rw [hte] at hO
      have HE : Hid ([34] ++ s.flatMap wrt ++ [34] = qt s) := rfl
      have hfl : ([34] ++ s.flatMap wrt : List UInt8).length ≤ 6 * i + 1 := by
        have h1 := flat_len s
        rw [HN.out] at h1
        simp only [List.length_append, List.length_cons, List.length_nil]; omega
      have hqp : 0 < (qt s).length := by unfold qt; simp
      generalize ([34] ++ s.flatMap wrt : List UInt8) = L at hO hfl HE
      obtain ⟨a0, c0, rfl⟩ := hO.out.shape
      have hsize := hQ.out.kp.size
      have HFT := HE
      have hO2 := hO.out.keep ((Keep.refl wr).alloc (.cells (Lib.byteCells [34]).toArray 5))
      obtain ⟨v8, w8, hr8, hO8, g8⟩ := appB_sep w.heap.size (wr.alloc (.cells (Lib.byteCells [34]).toArray 5)) 22 _ L [34] hO2 (by rw [World.size_alloc]; omega) wr.heap.size 1 _ rfl (heap_alloc_new wr _) (by simp; omega)
      have hQ8 := (hQ.out.keep ((Keep.refl wr).alloc (.cells (Lib.byteCells [34]).toArray 5))).app hO2 g8
      rw [HFT.out] at hO8
      have hcv := hO8.conv hqp
      have hK := hQ8.kp
      simp only [Lib.byteCells, List.map_cons, List.map_nil, List.length_cons, List.length_nil] at hr8
      clear hO2 g8 hte HFT HE hO8 hQ8
      generalize L.length = q at hr8
      generalize hans : qt s = ANS at hcv
      go_wp2_with (at_builtin; refine wpList_appRunB rfl _ _ rfl _ _ _ _ rfl rfl hr8 ?_)
      go_ret
      exact ⟨by rw [hans]; rfl, hK⟩
end Go.Proofs.YteonapeoeckhfaaDoor
