import Derived.Test.YtonfjmibnnioiaaDoorX2
set_option linter.unusedVariables false
set_option linter.unusedSimpArgs false
namespace Go.Proofs.YtonfjmibnnioiaaDoor
open Go.RowKit Go.Shelf
theorem get_mk (l : List UInt8) (i : Nat) (h : i < l.length) : (ByteArray.mk l.toArray).get! i = l.getD i 0 := by
  have hs := sz_mk l
  rw [show (ByteArray.mk l.toArray).get! i = (ByteArray.mk l.toArray)[i]'(by omega) from by
    simp [ByteArray.get!, getElem!_pos, h]; rfl]
  show l.toArray[i]'_ = _
  simp [List.getD, h]
/-- What a byte above 7f begins: a rune above 7f; the bytes behind it are above 7f too. -/
theorem decode_facts (l : List UInt8) (i : Nat) (h : i < l.length) (hb : 128 ≤ (l.getD i 0).toNat) : 128 ≤ (Utf8.decode ⟨l.toArray⟩ i).1 ∧ Utf8.valid ((Utf8.decode ⟨l.toArray⟩ i).1 : Nat) = true ∧ 1 ≤ (Utf8.decode ⟨l.toArray⟩ i).2 ∧ i + (Utf8.decode ⟨l.toArray⟩ i).2 ≤ l.length ∧ ∀ k, 1 ≤ k → k < (Utf8.decode ⟨l.toArray⟩ i).2 → 128 ≤ (l.getD (i + k) 0).toNat := by
  rw [Lib.decode_at, sz_mk, get_mk l i h]
  have e1 : 1 < l.length - i → (ByteArray.mk l.toArray).get! (i + 1) = l.getD (i + 1) 0 := fun h1 => get_mk l (i + 1) (by omega)
  have e2 : 2 < l.length - i → (ByteArray.mk l.toArray).get! (i + 2) = l.getD (i + 2) 0 := fun h1 => get_mk l (i + 2) (by omega)
  have e3 : 3 < l.length - i → (ByteArray.mk l.toArray).get! (i + 3) = l.getD (i + 3) 0 := fun h1 => get_mk l (i + 3) (by omega)
  generalize (ByteArray.mk l.toArray).get! (i + 1) = c1 at *
  generalize (ByteArray.mk l.toArray).get! (i + 2) = c2 at *
  generalize (ByteArray.mk l.toArray).get! (i + 3) = c3 at *
  have hv : ∀ r : Nat, (r < 55296 ∨ (57343 < r ∧ r ≤ 1114111)) → Utf8.valid (r : Int) = true := by
    intro r hr
    rw [validRune_eq]; unfold validRune
    rw [decide_eq_true_eq]; omega
  have l0 := UInt8.toNat_lt (l.getD i 0)
  have l1 := UInt8.toNat_lt c1
  have l2 := UInt8.toNat_lt c2
  have l3 := UInt8.toNat_lt c3
  unfold Lib.decodeN
  split
  · omega
  · split
    · rename_i h2
      split
      · refine ⟨by omega, hv _ (by omega), by omega, by simp only []; omega, ?_⟩
        intro k k1 k2
        simp only [] at k2
        obtain rfl : k = 1 := by omega
        rw [← e1 h2.2.1]; omega
      · exact ⟨by omega, hv _ (by omega), by omega, by simp only []; omega, fun k k1 k2 => by simp only [] at k2; omega⟩
    · split
      · rename_i h2
        split
        · refine ⟨by omega, hv _ (by omega), by omega, by simp only []; omega, ?_⟩
          intro k k1 k2
          simp only [] at k2
          obtain rfl | rfl : k = 1 ∨ k = 2 := by omega
          · rw [← e1 h2.2.1.1]; omega
          · rw [← e2 h2.2.2.1]; omega
        · exact ⟨by omega, hv _ (by omega), by omega, by simp only []; omega, fun k k1 k2 => by simp only [] at k2; omega⟩
      · split
        · rename_i h2
          split
          · refine ⟨by omega, hv _ (by omega), by omega, by simp only []; omega, ?_⟩
            intro k k1 k2
            simp only [] at k2
            obtain rfl | rfl | rfl : k = 1 ∨ k = 2 ∨ k = 3 := by omega
            · rw [← e1 h2.2.1.1]; omega
            · rw [← e2 h2.2.2.1.1]; omega
            · rw [← e3 h2.2.2.2.1]; omega
          · exact ⟨by omega, hv _ (by omega), by omega, by simp only []; omega, fun k k1 k2 => by simp only [] at k2; omega⟩
        · exact ⟨by omega, hv _ (by omega), by omega, by simp only []; omega, fun k k1 k2 => by simp only [] at k2; omega⟩
/-- Where the first line's end stands. -/
def nlI (l : List UInt8) : Int := if (lnT l).length = l.length then -1 else ((lnT l).length : Nat)
theorem nl_any : ∀ l : List UInt8, Lib.indexAny l [13, 10] = nlI l
  | [] => rfl
  | c :: l => by
    have ih := nl_any l
    unfold Lib.indexAny
    rw [ih]
    have hc : ([13, 10] : List UInt8).contains c = isNL c := by
      unfold isNL
      simp only [List.contains_cons, List.contains_nil, Bool.or_false]
      rw [Bool.or_comm]
    rw [hc]
    unfold nlI lnT
    rw [List.takeWhile_cons]
    have hle : (lnT l).length ≤ l.length := lnT_le l
    unfold lnT at hle
    cases isNL c with
    | true => simp
    | false =>
      simp only [Bool.not_false, if_true, List.length_cons, Bool.false_eq_true, if_false]
      by_cases h : (l.takeWhile fun c => !isNL c).length = l.length
      · simp [h]
      · rw [if_neg h, if_neg (by rw [beq_iff_eq]; omega), if_neg (by omega)]; omega
/-- No line ends among the first i bytes. -/
def NoNL (l : List UInt8) (i : Nat) : Prop := ∀ j, j < i → isNL (l.getD j 0) = false
theorem lnT_of : ∀ (l : List UInt8) (i : Nat), i ≤ l.length → NoNL l i → i ≤ (lnT l).length
  | _, 0, _, _ => Nat.zero_le _
  | [], i + 1, h, _ => by simp at h
  | c :: l, i + 1, h, hn => by
    have h0 : isNL c = false := hn 0 (by omega)
    unfold lnT
    rw [List.takeWhile_cons, if_pos (by rw [h0]; rfl), List.length_cons]
    have := lnT_of l i (by simpa using h) (fun j hj => hn (j + 1) (by omega))
    unfold lnT at this
    omega
theorem lnT_at : ∀ (l : List UInt8) (i : Nat), i < l.length → NoNL l i → isNL (l.getD i 0) = true → (lnT l).length = i
  | [], i, h, _, _ => by simp at h
  | c :: l, 0, _, _, h => by
    have : isNL c = true := h
    unfold lnT; rw [List.takeWhile_cons, if_neg (by rw [this]; decide)]; rfl
  | c :: l, i + 1, h, hn, hh => by
    have h0 : isNL c = false := hn 0 (by omega)
    unfold lnT
    rw [List.takeWhile_cons, if_pos (by rw [h0]; rfl), List.length_cons]
    have := lnT_at l i (by simpa using h) (fun j hj => hn (j + 1) (by omega)) hh
    unfold lnT at this
    omega
theorem isNL_high (c : UInt8) (h : 128 ≤ c.toNat) : isNL c = false := by
  unfold isNL
  rw [Bool.or_eq_false_iff, beq_eq_false_iff_ne, beq_eq_false_iff_ne]
  exact ⟨fun e => by rw [e] at h; exact absurd h (by decide), fun e => by rw [e] at h; exact absurd h (by decide)⟩
theorem ix_nl (c : UInt8) : decide ((0 : Int) ≤ Lib.indexByte [13, 10] c) = isNL c := by
  rw [ix_eq]
  unfold ixB isNL
  by_cases h : c ∈ ([13, 10] : List UInt8)
  · rw [if_pos h, decide_eq_true (by omega)]
    simp at h
    rcases h with rfl | rfl <;> rfl
  · rw [if_neg h]
    simp at h
    simp [h.1, h.2]
set_option maxRecDepth 100000 in
set_option maxHeartbeats 4000000 in
theorem IndexAny_short (l : List UInt8) (w : World) (h8 : l.length ≤ 8) : Calls Tryd.prog 51 #[.string ⟨l.toArray⟩, .string ⟨#[13, 10]⟩] w fun e w' => e = .returned (.int .i64 (nlI l)) ∧ Keep w w' := by
  obtain ⟨s, hs⟩ : ∃ s : ByteArray, s = ⟨l.toArray⟩ := ⟨_, rfl⟩
  have hsz : s.size = l.length := by rw [hs]; exact sz_mk l
  rw [← hs]
  have h8z : decide ((8 : Int) < (l.length : Int)) = false := decide_eq_false (by omega)
  have hA := fun n wx => Tryd.strings_shouldUseASCIISet n wx
  replace hs : Hid _ := hs
  have hit : (w.iter s 0).heap[w.heap.size]? = some (.stringIter s 0) := World.iter_heap w s 0
  have hk0 : Keep w (w.iter s 0) := (Keep.refl w).alloc _
  go_enter Tryd.func51, Tryd.ntmps51
  go_wp2_with (go_at_call 68; refine (hA _ _).mono ?_; rintro e' w0 ⟨rfl, hw0⟩; rw [hw0, h8z]; clear hw0)
  generalize w.iter s 0 = w1 at hit hk0 ⊢
  go_loopg [9, 10] l.length (fun g _ _ wx => ∃ i : Nat, i + g = l.length ∧ wx.heap[w.heap.size]? = some (.stringIter s i) ∧ Keep w wx ∧ Hid (NoNL l i))
  case atStart => exact ⟨0, by omega, hit, hk0, fun j hj => by omega⟩
  case round =>
    obtain ⟨i, hig, hit', kx, HN⟩ := hrel
    clear hit hk0
    by_cases hlt : i < l.length
    · have hsi : i < s.size := by omega
      have hnx := fun ty => Lib.run_next_any_at (P := Tryd.prog) wr w.heap.size s i ty hit' hsi
      have hit2 := fun p => Lib.iterAt_heap wr w.heap.size s i p hit'
      have kx2 : ∀ p, Keep w (wr.iterAt w.heap.size s p) := fun p => Lib.below_iterAt kx (Nat.le_refl _) s p
      by_cases hb : (l.getD i 0).toNat < 128
      · have hd : Utf8.decode s i = ((l.getD i 0).toNat, 1) := by
          rw [Lib.decode_at, hs.out, get_mk l i hlt]
          unfold Lib.decodeN
          rw [if_pos hb]
        rw [hd] at hnx
        have hit3 := hit2 (i + 1)
        have kx3 := kx2 (i + 1)
        have hR := fun wx => Tryd.strings_IndexRune_ascii ⟨#[13, 10]⟩ ((l.getD i 0).toNat : Int) wx (by omega) (by omega)
        have hback : (((l.getD i 0).toNat : Int)).toNat.toUInt8 = l.getD i 0 := by simp
        rw [hback] at hR
        have hR' : ∀ wx, Calls Tryd.prog 67 #[.string ⟨#[13, 10]⟩, .int .i32 ((l.getD i 0).toNat : Int)] wx fun e w' => e = .returned (.int .i64 (Lib.indexByte [13, 10] (l.getD i 0))) ∧ w' = wx := hR
        have hq := ix_nl (l.getD i 0)
        generalize Lib.indexByte [13, 10] (l.getD i 0) = ix at *
        simp only [] at hnx
        generalize wr.iterAt w.heap.size s (i + 1) = w3 at hnx hit3 kx3
        cases hnl : isNL (l.getD i 0) with
        | true =>
          rw [hnl] at hq
          have hE := lnT_at l i hlt HN.out hnl
          have HE : Hid (nlI l = (i : Nat)) := by unfold Hid nlI; rw [hE, if_neg (by omega)]
          clear hR hd hit2 kx2 hnl hE hb hback
          generalize (l.getD i 0).toNat = n at *
          go_wp2_with (go_at_call 67; refine (hR' _).mono ?_; rintro e' w0 ⟨rfl, hw0⟩; rw [hw0]; clear hw0)
          go_ret
          exact ⟨by rw [HE.out]; rfl, kx3⟩
        | false =>
          rw [hnl] at hq
          have HN2 : Hid (NoNL l (i + 1)) := fun j hj => by
            by_cases e : j = i
            · rw [e]; exact hnl
            · exact HN.out j (by omega)
          clear hR hd hit2 kx2 hnl hb hback
          generalize (l.getD i 0).toNat = n at *
          go_wp2_with (go_at_call 67; refine (hR' _).mono ?_; rintro e' w0 ⟨rfl, hw0⟩; rw [hw0]; clear hw0)
          go_roundg (l.length - (i + 1))
          case measure => omega
          case rel => exact ⟨i + 1, by omega, hit3, kx3, HN2⟩
      · have hf := decode_facts l i hlt (by omega)
        rw [← hs.out] at hf
        obtain ⟨f1, f2, f3, f4, f5⟩ := hf
        have hit3 := hit2 (i + (Utf8.decode s i).2)
        have kx3 := kx2 (i + (Utf8.decode s i).2)
        have HN2 : Hid (NoNL l (i + (Utf8.decode s i).2)) := fun j hj => by
          by_cases e : j < i
          · exact HN.out j e
          · by_cases e2 : j = i
            · rw [e2]; exact isNL_high _ (by omega)
            · have := f5 (j - i) (by omega) (by omega)
              rw [show i + (j - i) = j by omega] at this
              exact isNL_high _ this
        have hR' : ∀ wx, Calls Tryd.prog 67 #[.string ⟨#[13, 10]⟩, .int .i32 ((Utf8.decode s i).1 : Nat)] wx fun e w' => e = .returned (.int .i64 (-1)) ∧ Keep wx w' := fun wx => by
          by_cases he : (((Utf8.decode s i).1 : Nat) : Int) = 65533
          · rw [he]; exact IndexRune_err wx
          · exact IndexRune_high _ wx (by omega) f2 he
        generalize (Utf8.decode s i).1 = r at *
        generalize (Utf8.decode s i).2 = m at *
        generalize wr.iterAt w.heap.size s (i + m) = w3 at hnx hit3 kx3
        clear hit2 kx2 f1 f2 f5 hb
        go_wp2_with (go_at_call 67; refine (hR' _).mono ?_; rintro e' w4 ⟨rfl, k4⟩)
        go_roundg (l.length - (i + m))
        case measure => omega
        case rel => exact ⟨i + m, by omega, k4.at hit3, kx3.trans k4, HN2⟩
    · have hsi : ¬ i < s.size := by omega
      have hnx := fun ty => Lib.run_next_end_at (P := Tryd.prog) wr w.heap.size s i ty hit' hsi
      have HE : Hid (nlI l = -1) := by
        have h1 := lnT_of l i (by omega) HN.out
        have h2 := lnT_le l
        unfold Hid nlI; rw [if_pos (by omega)]
      go_wp2_with fail
      go_ret
      exact ⟨by rw [HE.out]; rfl, kx⟩
theorem z84 : (Tryd.prog.info? 84).map (fun i => (i.zero, i.size)) = some (some (.agg (Array.replicate 256 (.bool false))), 256) := by kernel_rfl
theorem IndexAny_any (l : List UInt8) (w : World) (hs : l.length ≤ 4294967000) : Calls Tryd.prog 51 #[.string ⟨l.toArray⟩, .string ⟨#[13, 10]⟩] w fun e w' => e = .returned (.int .i64 (nlI l)) ∧ Keep w w' := by
  by_cases h8 : l.length ≤ 8
  · exact IndexAny_short l w h8
  · have h := Tryd.strings_IndexAny_long (zero_of_info z84).1 ⟨l.toArray⟩ ⟨#[13, 10]⟩ w (by decide) (by rw [sz_mk]; omega) (by rw [sz_mk]; omega) (by decide) (by
      intro j b hj
      have hm := List.mem_of_getElem? hj
      have : b = 13 ∨ b = 10 := by simpa using hm
      rcases this with rfl | rfl <;> decide)
    have e1 : Lib.indexAny (ByteArray.mk l.toArray).data.toList (ByteArray.mk #[13, 10]).data.toList = nlI l := by rw [dt_mk]; exact nl_any l
    rw [e1] at h
    refine h.mono fun e w' ⟨h1, h2⟩ => ⟨h1, ?_⟩
    rw [h2]
    exact ((Keep.refl w).alloc _).alloc _
end Go.Proofs.YtonfjmibnnioiaaDoor
