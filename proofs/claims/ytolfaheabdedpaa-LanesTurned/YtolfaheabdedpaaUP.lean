import Derived.Test.YtolfaheabdedpaaPE
set_option linter.unusedVariables false
set_option linter.unusedSimpArgs false
namespace Go.Proofs.Ytolfaheabdedpaa
open Go.RowKit Go.Shelf
attribute [local go_sem] run_store_float
def upC (G : List (List Nat)) (i f : Nat) : Nat := (G.getD (i / 8) []).getD (f * 8 + i % 8) 0
def upk (G : List (List Nat)) (n d : Nat) : List (List Nat) := (List.range n).map (fun i => tab d (upC G i))
theorem upk_len (G : List (List Nat)) (n d : Nat) : (upk G n d).length = n := by simp [upk]
theorem upk_get (G : List (List Nat)) (n d i : Nat) (h : i < n) : (upk G n d).getD i [] = tab d (upC G i) := by simp [upk, List.getD, h]
theorem upk_take (G : List (List Nat)) (n d i : Nat) (h : i < n) : (upk G n d).take (i + 1) = (upk G n d).take i ++ [tab d (upC G i)] := by
  rw [List.take_succ_eq_append_getElem (by rw [upk_len]; exact h)]
  simp [upk]
def upK (G : List (List Nat)) (d i f : Nat) : List Nat := tab d (fun q => if q < f then upC G i q else 0)
theorem upK_zero (G : List (List Nat)) (d i : Nat) : upK G d i 0 = List.replicate d 0 := by
  unfold upK tab
  apply List.ext_getElem
  · simp
  · intro i h1 h2; simp
theorem upK_done (G : List (List Nat)) (d i : Nat) : upK G d i d = tab d (upC G i) := tab_congr fun q hq => by rw [if_pos hq]
theorem upK_len (G : List (List Nat)) (d i f : Nat) : (upK G d i f).length = d := tab_len _ _
theorem upK_next (G : List (List Nat)) (d i f : Nat) (hf : f < d) : (upK G d i f).set f (upC G i f) = upK G d i (f + 1) := by
  unfold upK
  rw [tab_set]
  refine tab_congr fun q hq => ?_
  by_cases e : q = f
  · subst e; simp
  · have : (q < f + 1) = (q < f) := by apply propext; omega
    simp [e, this]
set_option maxRecDepth 100000 in
set_option maxHeartbeats 4000000 in
theorem Unpack_ok (a : Option Addr) (c : Nat) (G : List (List Nat)) (n d : Nat) (w : World) (hd : d ≤ 65536) (hn : n ≤ 5864062014804) (hl : G.length ≤ 17592186044416) (hr : RdS 8 w a G) (hm : G.length = many n) (hb : badB 8 G d = false) :
    Calls Try.prog 10 #[.slice a G.length c, .int .i64 (n : Nat), .int .i64 (d : Nat)] w fun e w' => ∃ a' c', e = .returned (.tuple #[.slice a' (upk G n d).length c', .int .i64 0]) ∧ (upk G n d).length ≤ c' ∧ RdS 1 w' a' (upk G n d) ∧ Keep w w' := by
  have h22 := isMany_any (d : Int) w
  have e22 : (decide ((0 : Int) ≤ (d : Int)) && decide ((d : Int) ≤ 65536)) = true := by simp; omega
  rw [e22] at h22
  have h26 := areGroups_any a c G n d w (by omega) (by omega) hr
  have e26 : (decide (G.length = many n) && !badB 8 G d) = true := by rw [hb]; simp [hm]
  rw [e26] at h26
  have hall := fun j hj => badB_all hb j hj
  have HM : Hid (G.length = many n) := hm
  clear e22 e26 hm
  have hn0 : decide ((n : Int) < 0) = false := decide_eq_false (by omega)
  go_enter Try.func10, Try.ntmps10
  go_wp2_with (first
    | (go_at_call 22; refine h22.mono ?_; rintro e w0 ⟨rfl, rfl⟩)
    | (go_at_call 26; refine h26.mono ?_; rintro e w1 ⟨rfl, k1⟩))
  go_loopw [8, 27] (fun v i wr => ∃ (j : Nat) (K : List Sl), j ≤ n ∧ i = .int .i64 (j : Nat) ∧ SI 1 46 33 w0 K ((upk G n d).take j) v wr) (fun _ i _ => n - (intOf i).toNat)
  case atStart => exact ⟨0, [], by omega, rfl, SI.start 1 46 33 k1⟩
  case round =>
    obtain ⟨j, K, hj, rfl, hI⟩ := hrel
    by_cases hjl : j < n
    · have hjc : (j : Int) < (n : Int) := by omega
      have hq8 : j / 8 < G.length := by have := HM.out; unfold many at this; omega
      have hKl : K.length + 1 ≤ 5864062014805 := by rw [hI.kl]; simp [upk_len]; omega
      have hB := hI.k0.le
      obtain ⟨w2, hw2⟩ : ∃ w2, w2 = wr := ⟨_, rfl⟩
      subst hw2
      go_wp2_with (refine wpList_make46 _ rfl _ _ rfl d rfl rfl hd ?_; intro w3 r3 k3 s3)
      go_loopw [34] (fun i wr => ∃ f : Nat, f ≤ d ∧ i = .int .i64 f ∧ Keep w2 wr ∧ RowF 33 wr w2.heap.size (upK G d j f)) (fun i _ => d - (intOf i).toNat)
      case atStart => exact ⟨0, by omega, rfl, k3, by rw [upK_zero]; exact r3⟩
      case round =>
        obtain ⟨f, hf, rfl, kw, rw⟩ := hrel
        by_cases hfl : f < d
        · have hfc : (f : Int) < (d : Int) := by omega
          obtain ⟨b1, o1, va, m, vc, rfl, c1, hm1, -, hrf, -⟩ := (hr.keep (hI.k0.trans kw)) (j / 8) hq8
          have hmd := hall (j / 8) hq8
          obtain rfl : m = d := by omega
          obtain ⟨b3, o3, rfl, c3⟩ := hrf (f * 8 + j % 8) (by omega)
          have HX : Hid (upC G j f = (G.getD (j / 8) []).getD (f * 8 + j % 8) 0) := rfl
          rw [← HX.out, ← Nat.add_assoc] at c3
          have cx := rw.cell f (by rw [upK_len]; exact hfl)
          have fz := frozen_of_row wr w2.heap.size f _ 33 rw
          have HS : Hid (RowF 33 (wr.setCell ⟨w2.heap.size, f, none⟩ (.float .f64 (upC G j f))) w2.heap.size (upK G m j (f + 1))) := by
            have := rw.set f (upC G j f)
            rw [upK_next G m j f hfl] at this
            exact this
          have hgc : ((j / 8 : Nat) : Int) < (G.length : Int) := by omega
          generalize upC G j f = x at *
          clear hm1 hmd
          go_wp2_with fail
          go_roundw
          case rel => exact ⟨f + 1, by omega, by go_num, kw.setCell (by simp) _, HS.out⟩
          case measure => simp [intOf]; omega
        · have hfc : ¬ (f : Int) < (d : Int) := by omega
          obtain rfl : f = d := by omega
          rw [upK_done] at rw
          have HT : Hid ((upk G n f).take (j + 1) = (upk G n f).take j ++ [tab f (upC G j)]) := upk_take G n f j hjl
          have hit : Itm 1 33 w0.heap.size wr (some ⟨w2.heap.size, 0, none⟩, f, f) (tab f (upC G j)) := by
            refine ⟨by rw [tab_len]; simp, Nat.le_refl _, ?_, ?_⟩
            · intro q hq
              exact ⟨w2.heap.size, 0, rfl, by rw [Nat.zero_add]; exact rw.cell q hq⟩
            · intro p hp
              simp only [Option.some.injEq] at hp
              subst hp
              exact ⟨hB, _, rw⟩
          go_wp2_with (at_builtin; refine wpList_appS Try.underlying22 i46 w0.heap.size _ rfl _ _ rfl K (some ⟨w2.heap.size, 0, none⟩, f, f) _ rfl (own_keep (own_keep hI.own kw) ((Keep.refl _).alloc _)) (Nat.le_trans hI.k0.le (Nat.le_trans kw.le ((Keep.refl _).alloc _).le)) _ _ rfl (newsS 46 _ (some ⟨w2.heap.size, 0, none⟩, f, f)) hKl ?_; intro v7 w7 o7 g7)
          go_roundw
          case rel => exact ⟨j + 1, _, by omega, by go_num, by rw [HT.out]; exact hI.next (by decide) (kw.trans ((Keep.refl _).alloc _)) (hit.keep ((Keep.refl _).alloc _)) o7 g7⟩
          case measure => simp [intOf]; omega
    · have hjc : ¬ (j : Int) < (n : Int) := by omega
      obtain rfl : j = n := by omega
      have HT : Hid ((upk G j d).take j = upk G j d) := by show _ = _; rw [List.take_of_length_le (by rw [upk_len]; omega)]
      rw [HT.out] at hI
      obtain ⟨a', c', rfl, hc', hr'⟩ := hI.rd (fun i hi => by rw [upk_len] at hi; rw [upk_get G j d i hi, tab_len]; omega)
      have kw := hI.k0
      go_wp2_with fail
      go_ret2
      exact ⟨a', c', rfl, hc', hr', kw⟩
end Go.Proofs.Ytolfaheabdedpaa
