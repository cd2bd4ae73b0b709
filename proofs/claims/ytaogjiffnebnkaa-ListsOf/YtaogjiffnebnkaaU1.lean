import Derived.Test.YtaogjiffnebnkaaR11
import Derived.Test.YtaogjiffnebnkaaJM7
import Derived.Test.YtaogjiffnebnkaaJYR4
set_option linter.unusedVariables false
set_option linter.unusedSimpArgs false
namespace Go.Proofs.Ytaogjiffnebnkaa
open Go.RowKit Go.Shelf Go.Maps
theorem pre_mks {t : Mk.Sh} {b : Mk.BT} {i : Nat} (h : Mk.Bt t b i) : ∀ j ∈ b.pre, t.K j = true → ∀ a, ∃ m ∈ b.mks a, m.1 = j := by
  induction h with
  | leaf h =>
    intro j hj hK a
    simp only [Mk.BT.pre, List.mem_singleton] at hj
    rw [hj, h] at hK; cases hK
  | node h hl hr ihl ihr =>
    rename_i i l r
    intro j hj hK a
    simp only [Mk.BT.pre, List.mem_cons, List.mem_append] at hj
    simp only [Mk.BT.mks]
    rcases hj with rfl | hj | hj
    · exact ⟨_, List.mem_cons_self, rfl⟩
    · obtain ⟨m, h1, h2⟩ := ihl j hj hK a
      exact ⟨m, List.mem_cons_of_mem _ (List.mem_append_left _ h1), h2⟩
    · obtain ⟨m, h1, h2⟩ := ihr j hj hK (a + l.nl)
      exact ⟨m, List.mem_cons_of_mem _ (List.mem_append_right _ h1), h2⟩
/-- A tree asks for too much where one of its marks does. -/
theorem lack_mk {L : List Nd} (h : trE L = 0) (F : Nat) : Mk.lackB (L.map Nd.m) F = true ↔ ∃ m ∈ mkl L, (F : Int) ≤ (L.getD m.1 nd0).ft := by
  obtain ⟨-, hR, hT, b, hb, -, hn⟩ := Mk.lvE_ok h
  rw [mkl_of hb]
  constructor
  · intro hl
    by_cases q : ∃ k, k < (L.map Nd.m).length ∧ ((((L.map Nd.m).getD k Mk.nd0).kd = 2 ∨ ((L.map Nd.m).getD k Mk.nd0).kd = 3) ∧ (F : Int) ≤ ((L.map Nd.m).getD k Mk.nd0).ft)
    · obtain ⟨k, hk, hkd, hft⟩ := q
      have hK : (Mk.shp (L.map Nd.m)).K k = true := by simp only [Mk.shp, decide_eq_true_eq]; exact hkd
      have hp : k ∈ b.pre := by rw [← Mk.ord_bt hT hb]; exact (Mk.ord_mem hT.wi k).2 (hT.re k hk)
      obtain ⟨m, h1, h2⟩ := pre_mks hb k hp hK 0
      refine ⟨m, h1, ?_⟩
      rw [getD_m] at hft
      rw [h2]; exact hft
    · rw [Mk.lackB_no (fun k hk r => q ⟨k, hk, r⟩)] at hl; cases hl
  · rintro ⟨m, hm, hf⟩
    obtain ⟨h1, h2, -, -⟩ := mks_mem hR.wi hb hR.1 0 m hm
    simp only [Mk.shp, decide_eq_true_eq] at h2
    exact Mk.lackB_yes h1 ⟨h2, by rw [getD_m]; exact hf⟩
theorem tkE_lack {L : List Nd} (h : trE L = 0) (F : Nat) : tkE L (F : Int) = if Mk.lackB (L.map Nd.m) F then 72 else 0 := by
  unfold tkE
  rw [if_neg (by simpa using h)]
  by_cases q : Mk.lackB (L.map Nd.m) F = true
  · rw [if_pos q, if_pos ((lack_mk h F).1 q)]
  · rw [if_neg q, if_neg (fun r => q ((lack_mk h F).2 r))]
set_option maxRecDepth 100000 in
set_option maxHeartbeats 4000000 in
theorem rError_any (a : Option Addr) (cap : Nat) (ts : List (Int × List Nd)) (F : Int) (w : World) (ht : RdT w a ts) :
    Calls Try.prog 35 #[.slice a ts.length cap, .int .i64 F] w fun e w' => e = .returned (.int .i64 (ofE ts F)) ∧ Keep w w' := by
  obtain ⟨n, hn⟩ : ∃ n, ts.length = n := ⟨_, rfl⟩
  rw [hn]
  by_cases h0 : F < 0 ∨ 65536 < F
  · have hx : Hid (ofE ts F = 2) := by show _ = _; unfold ofE; rw [if_pos h0]
    by_cases h1 : F < 0
    · have c1 : F < 0 := h1
      clear h0
      go_enter Try.func35, Try.ntmps35
      go_wp2_with fail
      go_ret
      exact ⟨by rw [hx.out]; rfl, Keep.refl w⟩
    · have c1 : ¬ F < 0 := h1
      have c2 : 65536 < F := by omega
      clear h0
      go_enter Try.func35, Try.ntmps35
      go_wp2_with fail
      go_ret
      exact ⟨by rw [hx.out]; rfl, Keep.refl w⟩
  · have c1 : ¬ F < 0 := by omega
    have c2 : ¬ 65536 < F := by omega
    by_cases h2 : 65536 < n
    · have c3 : (65536 : Int) < (n : Int) := by omega
      have hx : Hid (ofE ts F = 3) := by show _ = _; unfold ofE; rw [if_neg h0, hn, if_pos h2]
      clear h0
      go_enter Try.func35, Try.ntmps35
      go_wp2_with fail
      go_ret
      exact ⟨by rw [hx.out]; rfl, Keep.refl w⟩
    · have c3 : ¬ (65536 : Int) < (n : Int) := by omega
      have hn6 : Hid (n ≤ 65536) := by show _ ≤ _; omega
      have hx : Hid (ofE ts F = firE ts F) := by show _ = _; unfold ofE; rw [if_neg h0, hn, if_neg h2]
      obtain ⟨f, rfl⟩ : ∃ f : Nat, F = (f : Nat) := ⟨F.toNat, by omega⟩
      clear h0
      replace ht : Hid _ := ht
      go_enter Try.func35, Try.ntmps35
      go_wp2_with fail
      go_loopw [5] (fun iv wr => ∃ (k : Nat), iv = .int .i64 (k : Int) ∧ k ≤ n ∧ Keep w wr ∧ Hid (∀ j, j < k → tkE (ts.getD j (0, [])).2 (f : Int) = 0)) (fun iv _ => n - (intOf iv).toNat)
      case atStart => exact ⟨0, rfl, by omega, Keep.refl w, fun j hj => by omega⟩
      case round =>
        obtain ⟨k, rfl, hk, kw, hj⟩ := hrel
        by_cases hkl : k < n
        · have hkc : (k : Int) < (n : Int) := by omega
          have hk1 : Hid (k + 1 ≤ n) := hkl
          have hkl' : k < ts.length := by omega
          obtain ⟨b, o, na, nc, rfl, t0, t1, hN, -, hsz, -⟩ := ht.out k hkl'
          have c5 := kw.cell t0
          have c6 := kw.cell t1
          have HF : Hid (tkE (ts.getD k (0, [])).2 (f : Int) ≠ 0 → firE ts (f : Int) = tkE (ts.getD k (0, [])).2 (f : Int)) := fun h => firE_at ts k hkl' hj.out h
          have HJ : Hid (tkE (ts.getD k (0, [])).2 (f : Int) = 0 → ∀ j, j < k + 1 → tkE (ts.getD j (0, [])).2 (f : Int) = 0) := by
            intro h j hjk
            by_cases q : j = k
            · rw [q]; exact h
            · exact hj.out j (by omega)
          generalize ts.getD k (0, []) = t at *
          obtain ⟨out, L⟩ := t
          simp only at c5 c6 hN hsz
          have hC := Mk.rCount_any na nc out (L.map Nd.m) (by simpa using hsz) wr (hN.keep kw).m
          rw [List.length_map] at hC
          by_cases hE : trE L = 0
          · have c7 : (Mk.lvE (L.map Nd.m) != 0) = false := by rw [bne_eq_false_iff_eq]; exact hE
            obtain ⟨-, hR, -, -⟩ := Mk.lvE_ok hE
            have hT := tkE_lack hE f
            have hFi := fun (w2 : World) (k2 : Keep wr w2) => Mk.rFits_any w2 na nc f out (L.map Nd.m) (by simpa using hsz) hR ((hN.keep kw).keep k2).m
            simp only [List.length_map] at hFi
            replace hFi : Hid _ := hFi
            replace hR : Hid _ := hR
            replace hE : Hid _ := hE
            by_cases hB : Mk.lackB (L.map Nd.m) f = true
            · rw [hB, if_pos rfl] at hT
              have hx2 : Hid (ofE ts (f : Int) = 72) := by show _ = _; rw [hx.out, HF.out (by rw [hT]; decide), hT]
              go_wp2_with (first
                | (go_at_call 58; refine hC.mono ?_; rintro e w2 ⟨rfl, k2⟩; replace k2 : Keep wr w2 := k2; have c8 := k2.cell c5; have c9 := k2.cell c6; have hF2 := hFi.out w2 k2)
                | (go_at_call 59; refine hF2.mono ?_; rintro e w3 ⟨rfl, k3⟩; rw [hB]; replace k3 : Keep w2 w3 := k3))
              go_ret
              exact ⟨by rw [hx2.out]; rfl, Keep.trans (Keep.trans kw k2) k3⟩
            · have hB' : Mk.lackB (L.map Nd.m) f = false := by simpa using hB
              rw [hB', if_neg (by simp)] at hT
              replace hT : Hid _ := hT
              go_wp2_with (first
                | (go_at_call 58; refine hC.mono ?_; rintro e w2 ⟨rfl, k2⟩; replace k2 : Keep wr w2 := k2; have c8 := k2.cell c5; have c9 := k2.cell c6; have hF2 := hFi.out w2 k2)
                | (go_at_call 59; refine hF2.mono ?_; rintro e w3 ⟨rfl, k3⟩; rw [hB']; replace k3 : Keep w2 w3 := k3))
              have hb1 := hk1.out
              have hw : ((k : Int) + 1) = ((k + 1 : Nat) : Int) := rfl
              rw [hw]
              exact ⟨⟨k + 1, rfl, hb1, Keep.trans (Keep.trans kw k2) k3, HJ.out hT.out⟩, left_down hb1⟩
          · have c7 : (Mk.lvE (L.map Nd.m) != 0) = true := bne_iff_ne.2 hE
            have hx2 : Hid (ofE ts (f : Int) = Mk.lvE (L.map Nd.m)) := by
              have e : tkE L (f : Int) = trE L := by unfold tkE; rw [if_pos hE]
              show _ = _
              rw [hx.out, HF.out (by rw [e]; exact hE), e]; rfl
            replace hE : Hid _ := hE
            go_wp2_with (first
                | (go_at_call 58; refine hC.mono ?_; rintro e w2 ⟨rfl, k2⟩; replace k2 : Keep wr w2 := k2))
            go_ret
            exact ⟨by rw [hx2.out]; rfl, Keep.trans kw k2⟩
        · have hkc : ¬ (k : Int) < (n : Int) := by omega
          obtain rfl : k = n := by omega
          have hx0 : Hid (ofE ts (f : Int) = 0) := by
            show _ = _
            rw [hx.out]
            exact firE_none ts fun j hj' => hj.out j (by omega)
          go_wp2_with fail
          go_ret
          exact ⟨by rw [hx0.out]; rfl, kw⟩
end Go.Proofs.Ytaogjiffnebnkaa
