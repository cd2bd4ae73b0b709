import Derived.Test.YtbjidpooociamaaDoorC18
set_option linter.unusedVariables false
set_option linter.unusedSimpArgs false
namespace Go.Proofs.YtbjidpooociamaaDoor
open Go.RowKit Lb
theorem dec_of (n k : Nat) (h0 : n ≠ 0) (h : n < 10 ^ k) : dec n = cut0 (dw k n) := by unfold dec; rw [if_neg h0, cut0_eq n k h]
set_option maxRecDepth 100000 in
set_option maxHeartbeats 1600000 in
theorem lives_any (w : World) : Calls Tryd.prog 15 #[] w fun e w' => e = .returned (.bool true) ∧ Keep w w' := by
  have D1 := divide_K1
  have G1 := divisor_small 1 (by omega) divide_K1
  go_enter Tryd.func15, Tryd.ntmps15
  go_wp2_with fail
  have hk0 : Keep w ((w.alloc (Obj.cells #[Value.int IntKind.u32 7] 62)).alloc (Obj.cells #[Value.int IntKind.u32 2] 62)) := ((Keep.refl w).alloc _).alloc _
  have r7 : Row ((w.alloc (Obj.cells #[Value.int IntKind.u32 7] 62)).alloc (Obj.cells #[Value.int IntKind.u32 2] 62)) w.heap.size [7] := by
    have : Row (w.alloc (Obj.cells #[Value.int IntKind.u32 7] 62)) w.heap.size [7] := by unfold Row; rw [heap_alloc_new]; simp [U]
    exact this.keep ((Keep.refl _).alloc _)
  have r2 : Row ((w.alloc (Obj.cells #[Value.int IntKind.u32 7] 62)).alloc (Obj.cells #[Value.int IntKind.u32 2] 62)) (w.heap.size + 1) [2] := by
    unfold Row
    have := heap_alloc_new (w.alloc (Obj.cells #[Value.int IntKind.u32 7] 62)) (Obj.cells #[Value.int IntKind.u32 2] 62)
    rw [World.size_alloc] at this
    rw [this]; simp [U]
  generalize (w.alloc _).alloc _ = w1 at hk0 r7 r2 ⊢
  have m7 : Lim [7] := by intro x hx; simp at hx; omega
  have m2 : Lim [2] := by intro x hx; simp at hx; omega
  have d1 := DivMod_of (some ⟨w.heap.size, 0, none⟩) (some ⟨w.heap.size + 1, 0, none⟩) 1 1 [7] [2] w1 (by simp) (by simp) (by simp) (by simp) r7.rd0 r2.rd0 (by decide)
    (D1 (some ⟨w.heap.size, 0, none⟩) (some ⟨w.heap.size + 1, 0, none⟩) 1 1 [7] [2] w1 (by simp) (by simp) r7.rd0 r2.rd0 m7 m2 (by simp [Nrm]) (by simp [Nrm]) (by simp))
  refine d1.mono ?_
  rintro e w2 ⟨vq, vr, rfl, hq, hr, hk2⟩
  have hq' := hq.res (l := [3]) (by intro x hx; simp at hx; omega) (by simp [Nrm]) (by decide)
  have hr' := hr.res (l := [1]) (by intro x hx; simp at hx; omega) (by simp [Nrm]) (by decide)
  obtain ⟨aq, cq, rfl, hcq, hrq⟩ := hq'.shape
  obtain ⟨ar, cr, rfl, hcr, hrr⟩ := hr'.shape
  clear d1 hq hr
  go_wp2_with fail
  have hk3 : Keep w2 ((w2.alloc (Obj.cells #[Value.int IntKind.u32 6] 62)).alloc (Obj.cells #[Value.int IntKind.u32 4] 62)) := ((Keep.refl w2).alloc _).alloc _
  have r6 : Row ((w2.alloc (Obj.cells #[Value.int IntKind.u32 6] 62)).alloc (Obj.cells #[Value.int IntKind.u32 4] 62)) w2.heap.size [6] := by
    have : Row (w2.alloc (Obj.cells #[Value.int IntKind.u32 6] 62)) w2.heap.size [6] := by unfold Row; rw [heap_alloc_new]; simp [U]
    exact this.keep ((Keep.refl _).alloc _)
  have r4 : Row ((w2.alloc (Obj.cells #[Value.int IntKind.u32 6] 62)).alloc (Obj.cells #[Value.int IntKind.u32 4] 62)) (w2.heap.size + 1) [4] := by
    unfold Row
    have := heap_alloc_new (w2.alloc (Obj.cells #[Value.int IntKind.u32 6] 62)) (Obj.cells #[Value.int IntKind.u32 4] 62)
    rw [World.size_alloc] at this
    rw [this]; simp [U]
  generalize (w2.alloc _).alloc _ = w3 at hk3 r6 r4 ⊢
  have m6 : Lim [6] := by intro x hx; simp at hx; omega
  have m4 : Lim [4] := by intro x hx; simp at hx; omega
  have o1 := Over_any 1 D1 G1 true (some ⟨w2.heap.size, 0, none⟩) (some ⟨w2.heap.size + 1, 0, none⟩) 1 1 [6] [4] w3 (by simp) (by simp) (by simp) (by simp) r6.rd0 r4.rd0 m6 m4 (by decide) (by decide) (by decide)
  refine o1.mono ?_
  rintro e w4 ⟨vn, vd, rfl, hn, hd, hk4⟩
  have hn' := hn.res (l := [3]) (by intro x hx; simp at hx; omega) (by simp [Nrm]) (by decide)
  have hd' := hd.res (l := [2]) (by intro x hx; simp at hx; omega) (by simp [Nrm]) (by decide)
  obtain ⟨an, cn, rfl, hcn, hrn⟩ := hn'.shape
  obtain ⟨ad, cd, rfl, hcd, hrd⟩ := hd'.shape
  clear o1 hn hd
  go_wp2_with fail
  have hk5 : Keep w4 (w4.alloc (Obj.cells #[Value.bool true, Value.slice an 1 cn, Value.slice ad 1 cd] 47)) := (Keep.refl w4).alloc _
  generalize w4.alloc _ = w5 at hk5 ⊢
  have m3 : Lim [3] := by intro x hx; simp at hx; omega
  have wr1 := Write_any 1 900 D1 G1 print_900 true an ad cn cd [3] [2] w5 (by simpa using hcn) (by simpa using hcd) (by simp) (by simp) (hrn.keep hk5) (hrd.keep hk5) m3 m2 (by decide) (by decide) (by decide) (by decide) (by decide) (by omega)
  have eS : S8 (ratioS true (val [3] / Nat.gcd (val [3]) (val [2])) (val [2] / Nat.gcd (val [3]) (val [2]))) = ⟨#[45, 51, 47, 50]⟩ := by
    have e1 : dec 3 = [51] := by rw [dec_of 3 1 (by decide) (by decide)]; decide
    have e2 : dec 2 = [50] := by rw [dec_of 2 1 (by decide) (by decide)]; decide
    have e3 : val [3] / Nat.gcd (val [3]) (val [2]) = 3 := by decide
    have e4 : val [2] / Nat.gcd (val [3]) (val [2]) = 2 := by decide
    rw [e3, e4]
    simp [ratioS, e1, e2, S8]
  rw [eS] at wr1
  refine wr1.mono ?_
  rintro e w6 ⟨rfl, hk6⟩
  clear wr1 eS
  have rd := Read_few [52, 50, 57, 52, 57, 54, 55, 50, 57, 54] w6 (by decide) (by decide) (by decide)
  have e10 : S8 [52, 50, 57, 52, 57, 54, 55, 50, 57, 54] = ⟨#[52, 50, 57, 52, 57, 54, 55, 50, 57, 54]⟩ := by simp [S8]
  rw [e10] at rd
  go_wp2_with fail
  refine rd.mono ?_
  rintro e w7 ⟨vn', rfl, hn2, hk7⟩
  have hn2' := hn2.res (l := [0, 1]) (by intro x hx; simp at hx; omega) (by simp [Nrm]) (by decide)
  obtain ⟨am, cm, rfl, hcm, hrm⟩ := hn2'.shape
  clear rd e10 hn2
  have hk27 := (((hk3.trans hk4).trans hk5).trans hk6).trans hk7
  have hk07 := (hk0.trans hk2).trans hk27
  obtain ⟨b1, o1, rfl, x1⟩ := (hrq.keep hk27) 0 (by simp)
  obtain ⟨b2, o2, rfl, x2⟩ := (hrr.keep hk27) 0 (by simp)
  obtain ⟨b3, o3, rfl, x3⟩ := hrm 0 (by simp)
  obtain ⟨b3', o3', e3, x4⟩ := hrm 1 (by simp)
  simp only [Option.some.injEq, Addr.mk.injEq, and_true] at e3
  obtain ⟨rfl, rfl⟩ := e3
  simp at x1 x2 x3 x4
  have ad1 := Add_any (some ⟨b3, o3, none⟩) (some ⟨b3, o3, none⟩) cm cm [0, 1] [0, 1] w7 (by simpa using hcm) (by simpa using hcm) (by simp) (by simp) hrm hrm (by intro x hx; simp at hx; omega) (by intro x hx; simp at hx; omega)
  go_wp2_with fail
  refine ad1.mono ?_
  rintro e w8 ⟨vs, rfl, hs, hk8⟩
  have hs' := hs.res (l := [0, 2]) (by intro x hx; simp at hx; omega) (by simp [Nrm]) (by decide)
  obtain ⟨as1, cs1, rfl, hcs, hrs⟩ := hs'.shape
  have pr := print_900 as1 cs1 [0, 2] w8 hcs (by simp) hrs (by intro x hx; simp at hx; omega) (by decide)
  have eD : S8 (dec (val [0, 2])) = ⟨#[56, 53, 56, 57, 57, 51, 52, 53, 57, 50]⟩ := by
    rw [show val [0, 2] = 8589934592 from by decide, dec_of 8589934592 10 (by decide) (by decide)]
    decide
  rw [eD] at pr
  clear ad1 hs eD x1 x2 x3 x4
  go_wp2_with fail
  refine pr.mono ?_
  rintro e w9 ⟨rfl, hk9⟩
  go_wp2_with fail
  go_ret
  exact ⟨rfl, (hk07.trans hk8).trans hk9⟩
end Go.Proofs.YtbjidpooociamaaDoor
