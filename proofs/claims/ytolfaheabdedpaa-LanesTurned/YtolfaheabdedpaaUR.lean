import Derived.Test.YtolfaheabdedpaaUP
set_option linter.unusedVariables false
set_option linter.unusedSimpArgs false
namespace Go.Proofs.Ytolfaheabdedpaa
open Go.RowKit Go.Shelf
theorem wpList_appF (B : Nat) (w : World) {ops : Array Oper} {rest : List Oper} {o : Oper} {a : Act} {Q : Exit → Act → World → Prop} (hgd : o.guard = none) (s x : Operand)
    (hop : o.op = .call { callee := .builtin .append, args := #[s, x], argTypes := #[46, 46] }) (l : List Nat) (y : Nat) (v : Value) (hs : a.eval s = v) (hown : OwnF B w v l) (hB : B ≤ w.heap.size) (g c : Nat) (hx : a.eval x = .slice (some ⟨g, 0, none⟩) 1 c)
    (hnews : w.cell? ⟨g, 0, none⟩ = some (.float .f64 y)) (hlen : l.length + 1 ≤ 65536)
    (hK : ∀ v' w', OwnF B w' v' (l ++ [y]) → w.grownBy w' v.ownBlock → wpList Try.prog ops Q rest (a.put o.dst v') w') :
    wpList Try.prog ops Q (o :: rest) a w := by
  refine wpList_plain hgd fun K hK' => ?_
  obtain ⟨i0, hi, hz0, hz1, hz2⟩ := info_parts i33
  obtain ⟨v', w', hr, h2, h3, -⟩ := run_append_own (P := Try.prog) w B 46 o.type 33 i0 _ 1 8 Try.underlying46 hi hz0 hz1 hz2 rfl (by decide) v _ _ hown ⟨g, 0, none⟩ 1 c (UF [y]) (by rw [UF_length]; rfl) (by
    intro j u hj
    match j, hj with
    | 0, hj =>
      simp [UF] at hj
      subst hj
      simpa [Addr.add] using hnews
    | j + 1, hj => simp [UF] at hj) (UF_one [y]) (by simp only [maxLen]; omega) (by omega) hB
  unfold Oper.wp
  simp [execOp, hop, resolve, invoke, builtin, hs, hx, hr, Result.andThen]
  exact hK' _ _ (hK v' w' (by unfold OwnF; rw [UF_append, List.length_append]; exact h2) h3)
theorem newsF (W : World) (x : Nat) : (W.alloc (Obj.cells #[.float .f64 x] 33)).cell? ⟨W.heap.size, 0, none⟩ = some (.float .f64 x) := by
  rw [cell_of_row _ _ _ _ 33 (0, 0) (heap_alloc_new W _)]; rfl
theorem tab_snoc (n : Nat) (F : Nat → Nat) : tab n F ++ [F n] = tab (n + 1) F := by
  simp [tab, List.range_succ]
/-- What the document's Unpack holds while a vector is laid. -/
structure UPI (W0 : World) (M : Nat) (G : List (List Nat)) (n d j f : Nat) (K : List Sl) (vo vg : Value) (w : World) : Prop where
  si : SI 1 46 33 W0 K ((upk G n d).take j) vo w
  own : OwnF M w vg (tab f (upC G j))
  m0 : W0.heap.size ≤ M
  m1 : M ≤ w.heap.size
  lt : ∀ i, i < ((upk G n d).take j).length → ∀ p, (K.getD i s0).1 = some p → p.block < M
  lv : ∀ b, vo.ownBlock = some b → b < M
theorem UPI.start {W0 : World} {G : List (List Nat)} {n d j : Nat} {K : List Sl} {vo : Value} {w : World} (h : SI 1 46 33 W0 K ((upk G n d).take j) vo w) : UPI W0 w.heap.size G n d j 0 K vo (.slice none 0 0) w :=
  ⟨h, OwnF.nil _ _, h.k0.le, Nat.le_refl _, fun i hi p hp => by obtain ⟨_, cur, hh⟩ := (h.ok i hi).ty p hp; exact (Array.getElem?_eq_some_iff.1 hh).1, fun b hb => by obtain ⟨_, cur, hh⟩ := own_block h.own hb; exact (Array.getElem?_eq_some_iff.1 hh).1⟩
theorem UPI.keep {W0 : World} {M : Nat} {G : List (List Nat)} {n d j f : Nat} {K : List Sl} {vo vg : Value} {w w' : World} (h : UPI W0 M G n d j f K vo vg w) (k : Keep w w') : UPI W0 M G n d j f K vo vg w' :=
  ⟨h.si.keep k, own_keep h.own k, h.m0, Nat.le_trans h.m1 k.le, h.lt, h.lv⟩
theorem UPI.next {W0 : World} {M : Nat} {G : List (List Nat)} {n d j f : Nat} {K : List Sl} {vo vg v7 : Value} {w w7 : World} (h : UPI W0 M G n d j f K vo vg w) (o7 : OwnF M w7 v7 (tab (f + 1) (upC G j))) (g7 : w.grownBy w7 vg.ownBlock) : UPI W0 M G n d j (f + 1) K vo v7 w7 := by
  have hM : ∀ b, vg.ownBlock = some b → M ≤ b := fun b hb => (own_block h.own hb).1
  refine ⟨h.si.grown g7 (fun b hb => Nat.le_trans h.m0 (hM b hb)) (fun b hb e => ?_) (fun i hi p hp e => ?_), o7, h.m0, Nat.le_trans h.m1 g7.size, h.lt, h.lv⟩
  · have h1 := hM b e
    have h2 := h.lv b hb
    omega
  · have h1 := hM p.block e
    have h2 := h.lt i hi p hp
    omega
set_option maxRecDepth 100000 in
set_option maxHeartbeats 4000000 in
theorem rUnpack_ok (a : Option Addr) (c : Nat) (G : List (List Nat)) (n d : Nat) (w : World) (hd : d ≤ 65536) (hn : n ≤ 5864062014804) (hl : G.length ≤ 17592186044416) (hr : RdS 8 w a G) (hm : G.length = many n) (hb : badB 8 G d = false) :
    Calls Try.prog 11 #[.slice a G.length c, .int .i64 (n : Nat), .int .i64 (d : Nat)] w fun e w' => ∃ a' c', e = .returned (.tuple #[.slice a' (upk G n d).length c', .int .i64 0]) ∧ (upk G n d).length ≤ c' ∧ RdS 1 w' a' (upk G n d) ∧ Keep w w' := by
  have hall := fun j hj => badB_all hb j hj
  have HM : Hid (G.length = many n) := hm
  have hdc : (d : Int) ≤ 65536 := by omega
  have hd0 : decide ((d : Int) < 0) = false := decide_eq_false (by omega)
  have hd1 : decide (65536 < (d : Int)) = false := decide_eq_false (by omega)
  have hn0 : decide ((n : Int) < 0) = false := decide_eq_false (by omega)
  have key : (0 < n % 8 ∧ G.length = n / 8 + 1) ∨ (¬ 0 < n % 8 ∧ G.length = n / 8) := by unfold many at hm; omega
  clear hm
  rcases key with ⟨h8, hG⟩ | ⟨h8, hG⟩
  · have hr8 : 0 < (n : Int) % 8 := by omega
    have hB : ((G.length : Int) != (n : Int) / 8 + 1) = false := by simp; omega
    have hB2 : ((G.length : Int) == (n : Int) / 8 + 1) = true := by simp; omega
    replace hG : Hid _ := hG
    clear h8
    go_enter Try.func11, Try.ntmps11
    go_wp2_with fail
    go_loop [9] (fun i => ∃ k : Nat, k ≤ G.length ∧ i = .int .i64 k) (fun i => G.length - (intOf i).toNat)
    case atStart => exact ⟨0, by omega, rfl⟩
    case round =>
      obtain ⟨k, hk, rfl⟩ := hrel
      by_cases hkl : k < G.length
      · have hkc : (k : Int) < (G.length : Int) := by omega
        obtain ⟨b, o, va, m, vc, rfl, c1, hm1, -, -, -⟩ := hr k hkl
        obtain rfl : m = d := by have := hall k hkl; omega
        clear hm1
        go_wp2_with fail
        go_round
        case rel => exact ⟨k + 1, by omega, by go_num⟩
        case measure => simp [intOf]; omega
      · have hkc : ¬ (k : Int) < (G.length : Int) := by omega
        go_wp2_with fail
        go_loopw [10, 11] (fun v i wr => ∃ (j : Nat) (K : List Sl), j ≤ n ∧ i = .int .i64 (j : Nat) ∧ SI 1 46 33 w K ((upk G n d).take j) v wr) (fun _ i _ => n - (intOf i).toNat)
        case atStart => exact ⟨0, [], by omega, rfl, SI.nil 1 46 33 w⟩
        case round =>
          obtain ⟨j, K, hj, rfl, hI⟩ := hrel
          by_cases hjl : j < n
          · have hjc : (j : Int) < (n : Int) := by omega
            have hq8 : j / 8 < G.length := by have := HM.out; unfold many at this; omega
            have hgc : ((j / 8 : Nat) : Int) < (G.length : Int) := by omega
            have hKl : K.length + 1 ≤ 5864062014805 := by rw [hI.kl]; simp [upk_len]; omega
            obtain ⟨w2, hw2⟩ : ∃ w2, w2 = wr := ⟨_, rfl⟩
            subst hw2
            go_wp2_with fail
            go_loopw [12, 13] (fun vg i wr => ∃ f : Nat, f ≤ d ∧ i = .int .i64 f ∧ Keep w wr ∧ UPI w w2.heap.size G n d j f K u10 vg wr) (fun _ i _ => d - (intOf i).toNat)
            case atStart => exact ⟨0, by omega, rfl, hI.k0, UPI.start hI⟩
            case round =>
              obtain ⟨f, hf, rfl, kw, hP⟩ := hrel
              by_cases hfl : f < d
              · have hfc : (f : Int) < (d : Int) := by omega
                obtain ⟨b1, o1, va, m, vc, rfl, c1, hm1, -, hrf, -⟩ := (hr.keep kw) (j / 8) hq8
                have hmd := hall (j / 8) hq8
                obtain rfl : m = d := by omega
                obtain ⟨b3, o3, rfl, c3⟩ := hrf (f * 8 + j % 8) (by omega)
                have HX : Hid (upC G j f = (G.getD (j / 8) []).getD (f * 8 + j % 8) 0) := rfl
                rw [← HX.out, ← Nat.add_assoc] at c3
                have HT : Hid (tab f (upC G j) ++ [upC G j f] = tab (f + 1) (upC G j)) := tab_snoc f _
                have hP2 := hP.keep ((Keep.refl wr).alloc (Obj.cells #[.float .f64 (upC G j f)] 33))
                have hlt : (tab f (upC G j)).length + 1 ≤ 65536 := by rw [tab_len]; omega
                have hnw := newsF wr (upC G j f)
                obtain ⟨T1, hT1⟩ : ∃ T1, tab f (upC G j) = T1 := ⟨_, rfl⟩
                have how := hP2.own
                rw [hT1] at HT hlt how
                clear hT1 hm1 hmd HX
                generalize upC G j f = x at *
                have HP2 : Hid _ := hP2
                clear hP2 hP
                go_wp2_with (at_builtin; refine wpList_appF w2.heap.size _ rfl _ _ rfl T1 x _ rfl how (HP2.out).m1 _ _ rfl hnw hlt ?_; intro v7 w7 o7 g7)
                go_roundw
                case rel =>
                  have hP3 := HP2.out.next (by rw [← HT.out]; exact o7) g7
                  exact ⟨f + 1, by omega, by go_num, hP3.si.k0, hP3⟩
                case measure => simp [intOf]; omega
              · have hfc : ¬ (f : Int) < (d : Int) := by omega
                obtain rfl : f = d := by omega
                have HT : Hid ((upk G n f).take (j + 1) = (upk G n f).take j ++ [tab f (upC G j)]) := upk_take G n f j hjl
                obtain ⟨a9, c9, e9, hit⟩ := Itm.own hP.own
                rw [tab_len] at e9 hit
                subst e9
                have hit2 := hit.mono hP.m0
                clear hit
                go_wp2_with (at_builtin; refine wpList_appS Try.underlying22 i46 w.heap.size _ rfl _ _ rfl K (a9, f, c9) _ rfl (own_keep hP.si.own ((Keep.refl _).alloc _)) (Nat.le_trans kw.le ((Keep.refl _).alloc _).le) _ _ rfl (newsS 46 _ (a9, f, c9)) hKl ?_; intro v7 w7 o7 g7)
                go_roundw
                case rel => exact ⟨j + 1, _, by omega, by go_num, by rw [HT.out]; exact hP.si.next (by decide) ((Keep.refl _).alloc _) (hit2.keep ((Keep.refl _).alloc _)) o7 g7⟩
                case measure => simp [intOf]; omega
          · have hjc : ¬ (j : Int) < (n : Int) := by omega
            obtain rfl : j = n := by omega
            have HT : Hid ((upk G j d).take j = upk G j d) := by show _ = _; rw [List.take_of_length_le (by rw [upk_len]; omega)]
            rw [HT.out] at hI
            obtain ⟨a', c', rfl, hc', hr'⟩ := hI.rd (fun i hi => by rw [upk_len] at hi; rw [upk_get G j d i hi, tab_len]; omega)
            have kw := hI.k0
            go_wp2_with fail
            go_ret2
            exact ⟨a', c', rfl, hc', hr', kw⟩
  · have hr8 : ¬ 0 < (n : Int) % 8 := by omega
    have hB : ((G.length : Int) != (n : Int) / 8) = false := by simp; omega
    have hB2 : ((G.length : Int) == (n : Int) / 8) = true := by simp; omega
    replace hG : Hid _ := hG
    clear h8
    go_enter Try.func11, Try.ntmps11
    go_wp2_with fail
    go_loop [9] (fun i => ∃ k : Nat, k ≤ G.length ∧ i = .int .i64 k) (fun i => G.length - (intOf i).toNat)
    case atStart => exact ⟨0, by omega, rfl⟩
    case round =>
      obtain ⟨k, hk, rfl⟩ := hrel
      by_cases hkl : k < G.length
      · have hkc : (k : Int) < (G.length : Int) := by omega
        obtain ⟨b, o, va, m, vc, rfl, c1, hm1, -, -, -⟩ := hr k hkl
        obtain rfl : m = d := by have := hall k hkl; omega
        clear hm1
        go_wp2_with fail
        go_round
        case rel => exact ⟨k + 1, by omega, by go_num⟩
        case measure => simp [intOf]; omega
      · have hkc : ¬ (k : Int) < (G.length : Int) := by omega
        go_wp2_with fail
        go_loopw [10, 11] (fun v i wr => ∃ (j : Nat) (K : List Sl), j ≤ n ∧ i = .int .i64 (j : Nat) ∧ SI 1 46 33 w K ((upk G n d).take j) v wr) (fun _ i _ => n - (intOf i).toNat)
        case atStart => exact ⟨0, [], by omega, rfl, SI.nil 1 46 33 w⟩
        case round =>
          obtain ⟨j, K, hj, rfl, hI⟩ := hrel
          by_cases hjl : j < n
          · have hjc : (j : Int) < (n : Int) := by omega
            have hq8 : j / 8 < G.length := by have := HM.out; unfold many at this; omega
            have hgc : ((j / 8 : Nat) : Int) < (G.length : Int) := by omega
            have hKl : K.length + 1 ≤ 5864062014805 := by rw [hI.kl]; simp [upk_len]; omega
            obtain ⟨w2, hw2⟩ : ∃ w2, w2 = wr := ⟨_, rfl⟩
            subst hw2
            go_wp2_with fail
            go_loopw [12, 13] (fun vg i wr => ∃ f : Nat, f ≤ d ∧ i = .int .i64 f ∧ Keep w wr ∧ UPI w w2.heap.size G n d j f K u10 vg wr) (fun _ i _ => d - (intOf i).toNat)
            case atStart => exact ⟨0, by omega, rfl, hI.k0, UPI.start hI⟩
            case round =>
              obtain ⟨f, hf, rfl, kw, hP⟩ := hrel
              by_cases hfl : f < d
              · have hfc : (f : Int) < (d : Int) := by omega
                obtain ⟨b1, o1, va, m, vc, rfl, c1, hm1, -, hrf, -⟩ := (hr.keep kw) (j / 8) hq8
                have hmd := hall (j / 8) hq8
                obtain rfl : m = d := by omega
                obtain ⟨b3, o3, rfl, c3⟩ := hrf (f * 8 + j % 8) (by omega)
                have HX : Hid (upC G j f = (G.getD (j / 8) []).getD (f * 8 + j % 8) 0) := rfl
                rw [← HX.out, ← Nat.add_assoc] at c3
                have HT : Hid (tab f (upC G j) ++ [upC G j f] = tab (f + 1) (upC G j)) := tab_snoc f _
                have hP2 := hP.keep ((Keep.refl wr).alloc (Obj.cells #[.float .f64 (upC G j f)] 33))
                have hlt : (tab f (upC G j)).length + 1 ≤ 65536 := by rw [tab_len]; omega
                have hnw := newsF wr (upC G j f)
                obtain ⟨T1, hT1⟩ : ∃ T1, tab f (upC G j) = T1 := ⟨_, rfl⟩
                have how := hP2.own
                rw [hT1] at HT hlt how
                clear hT1 hm1 hmd HX
                generalize upC G j f = x at *
                have HP2 : Hid _ := hP2
                clear hP2 hP
                go_wp2_with (at_builtin; refine wpList_appF w2.heap.size _ rfl _ _ rfl T1 x _ rfl how (HP2.out).m1 _ _ rfl hnw hlt ?_; intro v7 w7 o7 g7)
                go_roundw
                case rel =>
                  have hP3 := HP2.out.next (by rw [← HT.out]; exact o7) g7
                  exact ⟨f + 1, by omega, by go_num, hP3.si.k0, hP3⟩
                case measure => simp [intOf]; omega
              · have hfc : ¬ (f : Int) < (d : Int) := by omega
                obtain rfl : f = d := by omega
                have HT : Hid ((upk G n f).take (j + 1) = (upk G n f).take j ++ [tab f (upC G j)]) := upk_take G n f j hjl
                obtain ⟨a9, c9, e9, hit⟩ := Itm.own hP.own
                rw [tab_len] at e9 hit
                subst e9
                have hit2 := hit.mono hP.m0
                clear hit
                go_wp2_with (at_builtin; refine wpList_appS Try.underlying22 i46 w.heap.size _ rfl _ _ rfl K (a9, f, c9) _ rfl (own_keep hP.si.own ((Keep.refl _).alloc _)) (Nat.le_trans kw.le ((Keep.refl _).alloc _).le) _ _ rfl (newsS 46 _ (a9, f, c9)) hKl ?_; intro v7 w7 o7 g7)
                go_roundw
                case rel => exact ⟨j + 1, _, by omega, by go_num, by rw [HT.out]; exact hP.si.next (by decide) ((Keep.refl _).alloc _) (hit2.keep ((Keep.refl _).alloc _)) o7 g7⟩
                case measure => simp [intOf]; omega
          · have hjc : ¬ (j : Int) < (n : Int) := by omega
            obtain rfl : j = n := by omega
            have HT : Hid ((upk G j d).take j = upk G j d) := by show _ = _; rw [List.take_of_length_le (by rw [upk_len]; omega)]
            rw [HT.out] at hI
            obtain ⟨a', c', rfl, hc', hr'⟩ := hI.rd (fun i hi => by rw [upk_len] at hi; rw [upk_get G j d i hi, tab_len]; omega)
            have kw := hI.k0
            go_wp2_with fail
            go_ret2
            exact ⟨a', c', rfl, hc', hr', kw⟩
end Go.Proofs.Ytolfaheabdedpaa
