import Derived.Test.YtaogjiffnebnkaaSH
import Derived.Test.YtaogjiffnebnkaaP12
import Derived.Test.YtaogjiffnebnkaaGM23
import Derived.Deep.RegionHeld3
import Derived.Test.YtaogjiffnebnkaaXF
set_option linter.unusedVariables false
set_option linter.unusedSimpArgs false
namespace Go.Proofs.Ytaogjiffnebnkaa
open Go.RowKit Go.Shelf Go.Maps
/-- Is a node false of a vector? -/
def fB (xs : List Nat) (d : Nd) : Bool := decide (Mk.gsS d.m (xs.getD d.ft.toNat 0) = 2)
abbrev Ky := Int × Int × Int
def ck (c : Ct) : Ky := (c.tr, c.fr, c.to)
theorem tw_filter {α : Type} {p : α → Bool} : ∀ {L : List α}, (L.Pairwise fun a b => p b = true → p a = true) → L.takeWhile p = L.filter p
  | [], _ => rfl
  | a :: L, h => by
    obtain ⟨h1, h2⟩ := List.pairwise_cons.1 h
    rw [List.takeWhile_cons, List.filter_cons]
    by_cases q : p a = true
    · rw [if_pos q, if_pos q, tw_filter h2]
    · rw [if_neg q, if_neg q]
      symm
      rw [List.filter_eq_nil_iff]
      intro b hb hpb
      exact q (h1 b hb hpb)
theorem gt_down {L : List Ct} (hs : srt kC L) (hok : ∀ c ∈ L, okT c) {x : Nat} (hx : x < 18446744073709551616) : L.Pairwise fun a b => gtB x b.th = true → gtB x a.th = true := by
  by_cases hn : isNaN x
  · exact pw_of fun a _ b _ h => by rw [gtB_nan hn] at h; cases h
  · have h2 : L.Pairwise fun a b => okT a ∧ okT b := pw_of fun a ha b hb => ⟨hok a ha, hok b hb⟩
    refine (List.Pairwise.and hs h2).imp fun {a b} hq h => ?_
    obtain ⟨q, ha, hb⟩ := hq
    rw [gtB_key hx hb.1 hn hb.2] at h
    rw [gtB_key hx ha.1 hn ha.2]
    simp only [decide_eq_true_eq] at h ⊢
    unfold kC at q
    omega
theorem filter_both {α : Type} {p q : α → Bool} : ∀ (S : List α), (∀ s ∈ S, ¬ (p s = true ∧ q s = true)) → (S.filter p ++ S.filter q).Perm (S.filter fun s => p s || q s)
  | [], _ => List.Perm.refl _
  | s :: S, h => by
    have ih := filter_both S (fun t ht => h t (List.mem_cons_of_mem _ ht))
    have h0 := h s List.mem_cons_self
    rw [List.filter_cons, List.filter_cons, List.filter_cons]
    cases hp : p s <;> cases hq : q s
    · simpa using ih
    · simp only [Bool.false_or, if_true, Bool.false_eq_true, if_false]
      exact List.perm_middle.trans (ih.cons s)
    · simp only [Bool.or_false, if_true, Bool.false_eq_true, if_false, List.cons_append]
      exact ih.cons s
    · exact absurd ⟨hp, hq⟩ h0
theorem part_perm {p : Nd × Ct → Bool} : ∀ (l : List Int) (S : List (Nd × Ct)), l.Nodup → (∀ s ∈ S, s.1.ft ∈ l) → (l.flatMap fun f => S.filter fun s => s.1.ft == f && p s).Perm (S.filter p)
  | [], S, _, h => by
    cases S with
    | nil => exact List.Perm.refl _
    | cons s S => have := h s List.mem_cons_self; cases this
  | f :: l, S, hn, h => by
    obtain ⟨h1, h2⟩ := List.nodup_cons.1 hn
    have ih := part_perm (p := p) l (S.filter fun s => !(s.1.ft == f)) h2 (fun s hs => by
      obtain ⟨a, b⟩ := List.mem_filter.1 hs
      rcases List.mem_cons.1 (h s a) with e | e
      · rw [e] at b; simp at b
      · exact e)
    rw [List.flatMap_cons]
    have e : (l.flatMap fun g => S.filter fun s => s.1.ft == g && p s) = l.flatMap fun g => (S.filter fun s => !(s.1.ft == f)).filter fun s => s.1.ft == g && p s := by
      rw [List.flatMap_def, List.flatMap_def]
      congr 1
      apply List.map_congr_left
      intro g hg
      rw [List.filter_filter]
      apply List.filter_congr
      intro s _
      by_cases q : s.1.ft = g
      · have : ¬ s.1.ft = f := by rw [q]; intro e; rw [e] at hg; exact h1 hg
        simp [q, this]
        rw [← q]; simp [this]
      · simp [q]
    rw [e]
    refine (List.Perm.append_left _ ih).trans ?_
    rw [List.filter_filter]
    have h3 := filter_both (p := fun s : Nd × Ct => s.1.ft == f && p s) (q := fun s => p s && !(s.1.ft == f)) S (fun s _ hq => by
      obtain ⟨a, b⟩ := hq
      simp only [Bool.and_eq_true] at a b
      rw [a.1] at b
      simp at b)
    refine h3.trans ?_
    refine List.Perm.of_eq (List.filter_congr fun s _ => ?_)
    cases (s.1.ft == f) <;> cases p s <;> rfl
/-- What is known of what was gathered. -/
structure GOk (s : Nd × Ct) : Prop where
  kd : s.1.kd = 2 ∨ s.1.kd = 3
  ms : s.1.ms = 1 ∨ s.1.ms = 2
  th : s.2.th = s.1.th
  cs : s.2.cs = s.1.cs
  ok : okT s.2
theorem nan_iff {x : Nat} : nanB x = true ↔ isNaN x := by
  unfold nanB
  show (!(Ieee.double.order x x == some .eq)) = true ↔ _
  by_cases h : isNaN x
  · rw [order_nan x x (.inl h)]; simp [h]
  · rw [order_ky x x h h]; simp [h]
theorem fB_nan {xs : List Nat} {s : Nd × Ct} (h : GOk s) (hn : nanB (xs.getD s.1.ft.toNat 0) = true) : fB xs s.1 = (s.1.ms == 2) := by
  unfold fB Mk.gsS
  generalize xs.getD s.1.ft.toNat 0 = x at *
  have hn' : Mk.nanB x = true := hn
  have hsd : ∀ b, Mk.sdS x s.1.m.ms b = s.1.ms := by intro b; unfold Mk.sdS; rw [hn']; rfl
  rcases h.kd with hk | hk
  · have e : s.1.m.kd = 2 := hk
    rw [if_pos e, hsd]
    by_cases q : s.1.ms = 2 <;> simp [q]
  · have e : s.1.m.kd = 3 := hk
    rw [if_neg (by omega), if_pos e]
    have hi : Mk.inB s.1.m.cs x = false := by
      unfold Mk.inB
      rw [List.any_eq_false]
      intro c hc hq
      have : (Ieee.double.order (floatOfInt FloatKind.f64 c) x == some .eq) = true := hq
      rw [order_nan _ x (.inr (nan_iff.1 hn))] at this
      cases this
    unfold Mk.amS
    rw [hi, hsd]
    simp only [Bool.false_eq_true, if_false]
    by_cases q : s.1.ms = 2 <;> simp [q]
theorem fB_num {xs : List Nat} {s : Nd × Ct} (h : GOk s) (hx : xs.getD s.1.ft.toNat 0 < 18446744073709551616) (hn : nanB (xs.getD s.1.ft.toNat 0) = false) : fB xs s.1 = ((s.1.kd == 2 && gtB (xs.getD s.1.ft.toNat 0) s.2.th) || (!(s.1.kd == 2) && !(amB s.2.cs (xs.getD s.1.ft.toNat 0)))) := by
  unfold fB Mk.gsS
  generalize xs.getD s.1.ft.toNat 0 = x at *
  have hn' : Mk.nanB x = false := hn
  have hnn : ¬ isNaN x := fun q => by rw [nan_iff.2 q] at hn; cases hn
  have hsd : ∀ b, Mk.sdS x s.1.m.ms b = if b then 1 else 2 := by intro b; unfold Mk.sdS; rw [hn']; rfl
  rcases h.kd with hk | hk
  · have e : s.1.m.kd = 2 := hk
    rw [if_pos e, hsd, hk]
    have h1 : Mk.leB x s.1.m.th = leqF x s.2.th := by rw [h.th]; rfl
    rw [h1, leqF_key hx h.ok.1 hnn h.ok.2, gtB_key hx h.ok.1 hnn h.ok.2]
    by_cases q : key x ≤ key s.2.th
    · have q2 : ¬ key s.2.th < key x := by omega
      simp [q, q2]
    · have q2 : key s.2.th < key x := by omega
      simp [q, q2]
  · have e : s.1.m.kd = 3 := hk
    rw [if_neg (by omega), if_pos e]
    have hi : Mk.inB s.1.m.cs x = amB s.2.cs x := by rw [h.cs]; rfl
    unfold Mk.amS
    rw [hi, hsd, hk]
    cases amB s.2.cs x <;> simp
/-- What a list tells to be false are the cuts of the false nodes of its feature. -/
theorem fls_perm {S : List (Nd × Ct)} {T : List Lst} (h : IsL S T) (hG : ∀ s ∈ S, GOk s) {t : Lst} (ht : t ∈ T) {xs : List Nat} (hx : xs.getD t.ft.toNat 0 < 18446744073709551616) :
    (fls t.ns t.cs t.ls (xs.getD t.ft.toNat 0)).Perm ((S.filter fun s => s.1.ft == t.ft && fB xs s.1).map (·.2)) := by
  unfold fls
  by_cases hn : nanB (xs.getD t.ft.toNat 0) = true
  · rw [if_pos hn, h.ls t ht]
    unfold sel
    refine List.Perm.of_eq (congrArg _ (List.filter_congr fun s hs => ?_))
    by_cases q : s.1.ft = t.ft
    · rw [← q] at hn
      rw [fB_nan (hG s hs) hn]
      rfl
    · have e : (s.1.ft == t.ft) = false := by simpa using q
      rw [e]; rfl
  · rw [if_neg hn]
    have hn' : nanB (xs.getD t.ft.toNat 0) = false := by simpa using hn
    obtain ⟨s1, s2⟩ := h.ns t ht
    have hokn := (h.ns_ok (R := okT) (fun s hs => (hG s hs).ok) ht).1
    have e1 : t.ns.take (fst t.ns (xs.getD t.ft.toNat 0)) = t.ns.filter fun c => gtB (xs.getD t.ft.toNat 0) c.th := by
      rw [← tw_filter (gt_down s1 hokn hx)]
      unfold fst
      exact (List.prefix_iff_eq_take.1 (List.takeWhile_prefix _)).symm
    rw [e1]
    have p1 : (t.ns.filter fun c => gtB (xs.getD t.ft.toNat 0) c.th).Perm ((S.filter fun s => s.1.ft == t.ft && (s.1.kd == 2 && gtB (xs.getD t.ft.toNat 0) s.2.th)).map (·.2)) := by
      refine (s2.perm.filter _).trans ?_
      unfold sel
      rw [List.filter_map, List.filter_filter]
      refine List.Perm.of_eq (congrArg _ (List.filter_congr fun s _ => ?_))
      simp only [Function.comp, cnd]
      cases (s.1.ft == t.ft) <;> cases (s.1.kd == 2) <;> cases gtB (xs.getD t.ft.toNat 0) s.2.th <;> rfl
    have p2 : (chs t.cs (xs.getD t.ft.toNat 0)).Perm ((S.filter fun s => s.1.ft == t.ft && (!(s.1.kd == 2) && !(amB s.2.cs (xs.getD t.ft.toNat 0)))).map (·.2)) := by
      unfold chs
      rw [h.cs t ht]
      unfold sel
      rw [List.filter_map, List.filter_filter]
      refine List.Perm.of_eq (congrArg _ (List.filter_congr fun s _ => ?_))
      simp only [Function.comp, cnd]
      cases (s.1.ft == t.ft) <;> cases (s.1.kd == 2) <;> cases amB s.2.cs (xs.getD t.ft.toNat 0) <;> rfl
    refine (List.Perm.append p1 p2).trans ?_
    rw [← List.map_append]
    refine List.Perm.map _ ?_
    refine (filter_both S (fun s _ hq => by
      obtain ⟨a, b⟩ := hq
      simp only [Bool.and_eq_true] at a b
      rw [a.2.1] at b
      simp at b)).trans ?_
    refine List.Perm.of_eq (List.filter_congr fun s hs => ?_)
    by_cases q : s.1.ft = t.ft
    · rw [← q] at hn' hx ⊢
      rw [fB_num (hG s hs) hx hn']
      cases (s.1.ft == s.1.ft) <;> rfl
    · have e : (s.1.ft == t.ft) = false := by simpa using q
      rw [e]; rfl
end Go.Proofs.Ytaogjiffnebnkaa
set_option linter.unusedVariables false
set_option linter.unusedSimpArgs false
namespace Go.Proofs.Ytaogjiffnebnkaa
open Go.RowKit Go.Shelf
attribute [local go_sem] run_store_float
set_option maxRecDepth 100000 in
set_option maxHeartbeats 2000000 in
theorem copies_big (a : Option Addr) (c : Nat) (L : List Ct) (w : World) (hLn : L.length ≤ 268435456) (ha : RdC w a L) :
    Calls Try.prog 41 #[.slice a L.length c] w fun e w' => ∃ v, e = .returned v ∧ ∃ K, OC L w v w' K := by
  go_enter Try.func41, Try.ntmps41
  go_wp2_with fail
  go_loopw [3, 8] (fun v iv wr => ∃ (k : Nat) (K : List (Ct × Option Addr × Nat)), k ≤ L.length ∧ iv = .int .i64 k ∧ OC (L.take k) w v wr K) (fun _ iv _ => L.length - (intOf iv).toNat)
  case atStart => exact ⟨0, [], by omega, rfl, OC.nil w⟩
  case round =>
    obtain ⟨k, K, hk, rfl, hI⟩ := hrel
    by_cases hkl : k < L.length
    · have hkc : (k : Int) < (L.length : Int) := by omega
      obtain ⟨b, o, ca, cp, rfl, hnd⟩ := (ha.keep hI.kp) k hkl
      have hst := take_snoc hkl
      have hKl : K.length + 1 ≤ 1099511627776 := by have := hI.len; rw [List.length_take] at this; omega
      generalize L.getD k cd0 = N at *
      have c0 := hnd.c0
      have c1 := hnd.c1
      have c2 := hnd.c2
      have c3 := hnd.c3
      have c4 := hnd.c4
      obtain ⟨X1, hX1, kX⟩ : ∃ X1, wr.alloc (Obj.cells #[Value.float FloatKind.f64 N.th, Value.slice ca N.cs.length cp, Value.int IntKind.i64 N.tr, Value.int IntKind.i64 N.fr, Value.int IntKind.i64 N.to] 57) = X1 ∧ Keep wr X1 := ⟨_, rfl, (Keep.refl wr).alloc _⟩
      have hC := copyOf_any N ca cp X1 (hnd.rd.keep kX) hnd.sz hnd.cp
      have hsz := hnd.sz
      have hB4 := hI.kp.le
      unfold Ct.v at hC
      replace hX1 : Hid _ := hX1
      replace hst : Hid _ := hst
      clear hnd
      go_wp2_with (first | (go_at_call 43; rw [hX1.out]; refine hC.mono ?_; rintro e w2 ⟨va, cc, rfl, hO, hcc, k2⟩) | (at_builtin; refine wpList_appC w.heap.size _ rfl _ _ rfl K (N, va, cc) u3 ?_ (hI.own.keep ((kX.trans k2).alloc _)) (Nat.le_trans hB4 ((kX.trans k2).alloc _).le) ⟨w2.heap.size, 0, none⟩ 1 ?_ (newsC _ _ (by simp) N va cc) hKl ?_; rotate_left 2; intro v5 w5 hO5 g5 hv5))
      · go_roundw
        case rel =>
          refine ⟨k + 1, K ++ [(N, va, cc)], by omega, by go_num, ?_⟩
          rw [hst.out]
          refine hI.step ((kX.trans k2).alloc _) hsz ?_ hO5 g5
          exact (hO.mono (Nat.le_trans hB4 kX.le)).keep ((Keep.refl w2).alloc _)
        case measure => simp [intOf]; omega
      all_goals rfl
    · have hkc : ¬ (k : Int) < (L.length : Int) := by omega
      obtain rfl : k = L.length := by omega
      rw [List.take_length] at hI
      go_wp2_with fail
      go_ret
      exact ⟨_, rfl, K, hI⟩
set_option maxRecDepth 100000 in
set_option maxHeartbeats 4000000 in
theorem False_big (F : Int) (na : Option Addr) (L : List Ct) (nc : Nat) (ca : Option Addr) (C : List Ct) (cc : Nat) (la : Option Addr) (O : List Ct) (lc : Nat) (x : Nat) (w : World) (hL : L.length ≤ 268435456) (hC : C.length ≤ 268435456) (hO : O.length ≤ 268435456) (hnc : L.length ≤ nc) (rn : RdC w na L) (rc : RdC w ca C) (rl : RdC w la O) :
    Calls Try.prog 20 #[lst F na L.length nc ca C.length cc la O.length lc, .float .f64 x] w fun e w' => ∃ v, e = .returned v ∧ ∃ K, OC (fls L C O x) w v w' K := by
  have hN := fun wx => IsNaN_any x wx
  have hF := fun (wx : World) (k : Keep w wx) => First_big F na L nc ca C.length cc la O.length lc x wx hL (rn.keep k)
  have hfl := fst_le L x
  have hCp := fun (wx : World) (k : Keep w wx) => copies_big na nc (L.take (fst L x)) wx (by rw [List.length_take]; omega) ((rn.keep k).take _)
  have hCl := fun (wx : World) (k : Keep w wx) => copies_big la lc O wx hO (rl.keep k)
  have htl : (L.take (fst L x)).length = fst L x := by rw [List.length_take]; omega
  rw [htl] at hCp
  unfold lst at hF ⊢
  obtain ⟨w1, hw1, k0, tb⟩ : ∃ w1, w.alloc (Obj.cells #[Value.int IntKind.i64 F, Value.slice na L.length nc, Value.slice ca C.length cc, Value.slice la O.length lc] 33) = w1 ∧ Keep w w1 ∧ w1.heap[w.heap.size]? = some (Obj.cells #[Value.int IntKind.i64 F, Value.slice na L.length nc, Value.slice ca C.length cc, Value.slice la O.length lc] 33 (0, 0)) := ⟨_, rfl, (Keep.refl w).alloc _, heap_alloc_new w _⟩
  have b0 := cell_of_row _ _ 0 _ 33 (0, 0) tb
  have b1 := cell_of_row _ _ 1 _ 33 (0, 0) tb
  have b2 := cell_of_row _ _ 2 _ 33 (0, 0) tb
  have b3 := cell_of_row _ _ 3 _ 33 (0, 0) tb
  simp only [List.getElem?_toArray, List.getElem?_cons_zero, List.getElem?_cons_succ] at b0 b1 b2 b3
  replace hw1 : Hid _ := hw1
  clear tb
  cases hn : nanB x
  · have HR : Hid (fls L C O x = L.take (fst L x) ++ chs C x) := by show _ = _; unfold fls; rw [hn]; rfl
    rw [hn] at hN
    generalize hf : fst L x = f at *
    have hfn : f ≤ nc := by omega
    generalize hTL : L.take f = TL at *
    go_enter Try.func20, Try.ntmps20
    go_wp2_with (go_at_call 39; rw [hw1.out]; refine (hN _).mono ?_; rintro e w2 ⟨rfl, hq⟩; rw [hq]; clear hq w2)
    have KD := (Keep.refl w1).drew
    have T0 := mk5 KD (KD.cell b0) (KD.cell b1) (KD.cell b2) (KD.cell b3)
    have hCp' := hCp
    clear hCl hN
    go_region_held3 (fun wx => Keep w1 wx ∧ wx.cell? ⟨w.heap.size, 0, none⟩ = some (Value.int IntKind.i64 F) ∧ wx.cell? ⟨w.heap.size, 1, none⟩ = some (Value.slice na L.length nc) ∧ wx.cell? ⟨w.heap.size, 2, none⟩ = some (Value.slice ca C.length cc) ∧ wx.cell? ⟨w.heap.size, 3, none⟩ = some (Value.slice la O.length lc)) (first | with_reducible exact T0 | with_reducible exact T2 | with_reducible exact T1) (first | (go_at_call 41; refine (hCp _ (k0.trans K1)).mono ?_; rintro e w3 ⟨v, rfl, K, hOC⟩; have K2 := K1.trans hOC.kp; have T2 := mk5 K2 (K2.cell b0) (K2.cell b1) (K2.cell b2) (K2.cell b3)) | (go_at_call 15; refine (hF _ (k0.trans KD)).mono ?_; rintro e w2 ⟨rfl, j1⟩; have K1 := KD.trans j1; have T1 := mk5 K1 (K1.cell b0) (K1.cell b1) (K1.cell b2) (K1.cell b3)))
    go_simp
    have hOC1 := hOC.base K1
    have b2' := K2.cell b2
    have hTn : TL.length ≤ 268435456 := by rw [htl]; omega
    clear T0 T1 T2 b0 b1 b2 b3 hCp hCp' hF hOC
    go_wp2_with fail
    go_loopw [5, 23] (fun v iv wr => ∃ (k : Nat) (K : List (Ct × Option Addr × Nat)), k ≤ C.length ∧ iv = .int .i64 k ∧ OC (TL ++ chs (C.take k) x) w1 v wr K) (fun _ iv _ => C.length - (intOf iv).toNat)
    case atStart => exact ⟨0, K, by omega, rfl, by simpa [chs] using hOC1⟩
    case round =>
      obtain ⟨k, K', hk, rfl, hI⟩ := hrel
      by_cases hkl : k < C.length
      · have hkc : (k : Int) < (C.length : Int) := by omega
        obtain ⟨b, o, ca', cp', rfl, hnd⟩ := (rc.keep (k0.trans hI.kp)) k hkl
        have hst := chs_snoc hkl x
        have hKl : K'.length + 1 ≤ 1099511627776 := by
          have h1 := hI.len
          have h2 : (chs (C.take k) x).length ≤ k := by
            unfold chs
            exact Nat.le_trans (List.length_filter_le _ _) (by rw [List.length_take]; omega)
          rw [List.length_append] at h1
          omega
        generalize C.getD k cd0 = N at *
        have c0 := hnd.c0
        have c1 := hnd.c1
        have c2 := hnd.c2
        have c3 := hnd.c3
        have c4 := hnd.c4
        obtain ⟨X1, hX1, kX, tX⟩ : ∃ X1, wr.alloc (Obj.cells #[Value.float FloatKind.f64 N.th, Value.slice ca' N.cs.length cp', Value.int IntKind.i64 N.tr, Value.int IntKind.i64 N.fr, Value.int IntKind.i64 N.to] 57) = X1 ∧ Keep wr X1 ∧ X1.heap[wr.heap.size]? = some (Obj.cells #[Value.float FloatKind.f64 N.th, Value.slice ca' N.cs.length cp', Value.int IntKind.i64 N.tr, Value.int IntKind.i64 N.fr, Value.int IntKind.i64 N.to] 57 (0, 0)) := ⟨_, rfl, (Keep.refl wr).alloc _, heap_alloc_new wr _⟩
        have hA := isAmong_any ca' cp' N.cs x X1 hnd.sz (hnd.rd.keep kX)
        have hCo := fun (wx : World) (k : Keep X1 wx) => copyOf_any N ca' cp' wx ((hnd.rd.keep kX).keep k) hnd.sz hnd.cp
        have y0 := cell_of_row _ _ 0 _ 57 (0, 0) tX
        have y1 := cell_of_row _ _ 1 _ 57 (0, 0) tX
        have y2 := cell_of_row _ _ 2 _ 57 (0, 0) tX
        have y3 := cell_of_row _ _ 3 _ 57 (0, 0) tX
        have y4 := cell_of_row _ _ 4 _ 57 (0, 0) tX
        simp only [List.getElem?_toArray, List.getElem?_cons_zero, List.getElem?_cons_succ] at y0 y1 y2 y3 y4
        have hsz := hnd.sz
        have hB4 := hI.kp.le
        unfold Ct.v at hCo
        replace hX1 : Hid _ := hX1
        clear hnd tX
        cases ham : amB N.cs x
        · rw [ham] at hA
          have HS : Hid (chs (C.take (k + 1)) x = chs (C.take k) x ++ [N]) := by show _ = _; rw [hst, ham]; rfl
          clear hst ham
          go_wp2_with (first | (go_at_call 42; rw [hX1.out]; refine hA.mono ?_; rintro e w2 ⟨rfl, k2⟩; have y0 := k2.cell y0; have y1 := k2.cell y1; have y2 := k2.cell y2; have y3 := k2.cell y3; have y4 := k2.cell y4) | (go_at_call 43; refine (hCo _ k2).mono ?_; rintro e w4 ⟨va, c4', rfl, hOv, hcc, k4⟩) | (at_builtin; refine wpList_appC w1.heap.size _ rfl _ _ rfl K' (N, va, c4') u5 ?_ (hI.own.keep ((kX.trans (k2.trans k4)).alloc _)) (Nat.le_trans hB4 ((kX.trans (k2.trans k4)).alloc _).le) ⟨w4.heap.size, 0, none⟩ 1 ?_ (newsC _ _ (by simp) N va c4') hKl ?_; rotate_left 2; intro v5 w5 hO5 g5 hv5))
          all_goals first
            | rfl
            | (go_roundw
               case rel =>
                 refine ⟨k + 1, K' ++ [(N, va, c4')], by omega, by go_num, ?_⟩
                 rw [HS.out, ← List.append_assoc]
                 exact hI.step ((kX.trans (k2.trans k4)).alloc _) hsz ((hOv.mono (Nat.le_trans hB4 (kX.trans k2).le)).keep ((Keep.refl w4).alloc _)) hO5 g5
               case measure => simp [intOf]; omega)
        · rw [ham] at hA
          have HS : Hid (chs (C.take (k + 1)) x = chs (C.take k) x) := by show _ = _; rw [hst, ham]; rfl
          clear hst ham
          go_wp2_with (go_at_call 42; rw [hX1.out]; refine hA.mono ?_; rintro e w2 ⟨rfl, k2⟩)
          go_roundw
          case rel => exact ⟨k + 1, K', by omega, by go_num, by rw [HS.out]; exact hI.keep (kX.trans k2)⟩
          case measure => simp [intOf]; omega
      · have hkc : ¬ (k : Int) < (C.length : Int) := by omega
        obtain rfl : k = C.length := by omega
        rw [List.take_length] at hI
        go_wp2_with fail
        go_ret
        exact ⟨_, rfl, K', by rw [HR.out]; exact hI.base k0⟩
  · have HR : Hid (fls L C O x = O) := by show _ = _; unfold fls; rw [hn]; rfl
    rw [hn] at hN
    go_enter Try.func20, Try.ntmps20
    go_wp2_with (first | (go_at_call 39; rw [hw1.out]; refine (hN _).mono ?_; rintro e w2 ⟨rfl, hq⟩; rw [hq]; clear hq w2) | (go_at_call 41; refine (hCl _ k0).mono ?_; rintro e w3 ⟨v, rfl, K, hOC⟩))
    go_ret
    exact ⟨_, rfl, K, by rw [HR.out]; exact hOC.base k0⟩
end Go.Proofs.Ytaogjiffnebnkaa
set_option linter.unusedVariables false
set_option linter.unusedSimpArgs false
namespace Go.Proofs.Ytaogjiffnebnkaa
open Go.RowKit Go.Shelf Go.Maps
theorem gat_gok {w : World} {a : Option Addr} {L : List Nd} (hr : RdN w a L) (h : trE L = 0) (nr : Int) : ∀ s ∈ gat L nr, GOk s := by
  intro s hs
  have h1 := gat_th hr h nr s hs
  have h2 := gat_nan h nr s hs
  unfold gat at hs
  obtain ⟨m, hm, rfl⟩ := List.mem_map.1 hs
  obtain ⟨-, hR, -, b, hb, -, hn⟩ := Mk.lvE_ok h
  rw [mkl_of hb] at hm
  obtain ⟨q1, q2, -, -⟩ := mks_mem hR.wi hb hR.1 0 m hm
  have hk : (L.getD m.1 nd0).kd = 2 ∨ (L.getD m.1 nd0).kd = 3 := by
    simp only [Mk.shp, decide_eq_true_eq, getD_m] at q2
    exact q2
  have hrt := hR.2 m.1 q1
  rw [getD_m] at hrt
  refine ⟨hk, ?_, rfl, rfl, h1, h2⟩
  show (L.getD m.1 nd0).ms = 1 ∨ (L.getD m.1 nd0).ms = 2
  generalize L.getD m.1 nd0 = d at *
  unfold Mk.rightB Mk.spl at hrt
  rcases hk with hk | hk
  · have e : d.m.kd = 2 := hk
    rw [if_neg (by omega), if_pos e] at hrt
    simp only [Bool.and_eq_true, decide_eq_true_eq] at hrt
    exact hrt.1.1.2.2.2.1
  · have e : d.m.kd = 3 := hk
    rw [if_neg (by omega), if_neg (by omega), if_pos e] at hrt
    simp only [Bool.and_eq_true, decide_eq_true_eq] at hrt
    exact hrt.1.1.2.2.2.1
theorem gall_gok {w : World} {a : Option Addr} {ts : List (Int × List Nd)} (hr : RdT w a ts) (hT : ∀ j, j < ts.length → trE (ts.getD j (0, [])).2 = 0) : ∀ s ∈ gall ts, GOk s := by
  intro s hs
  obtain ⟨k, hk, hg⟩ := mem_gall.1 hs
  obtain ⟨b, o, na, nc, -, -, -, hN, -⟩ := hr k hk
  exact gat_gok hN (hT k hk) _ s hg
/-- The false marks of a tree, as keys. -/
noncomputable def mK (xs : List Nat) (L : List Nd) (k : Int) : List Ky := ((mkl L).filter fun m => fB xs (L.getD m.1 nd0)).map fun m => (k, (m.2.1 : Int), (m.2.2 : Int))
/-- Those of the trees from number k on. -/
noncomputable def rem (xs : List Nat) : List (Int × List Nd) → Nat → List Ky
  | [], _ => []
  | t :: ts, k => mK xs t.2 (k : Nat) ++ rem xs ts (k + 1)
theorem gat_keys (xs : List Nat) (L : List Nd) (k : Int) : ((gat L k).filter fun s => fB xs s.1).map (fun s => ck s.2) = mK xs L k := by
  unfold gat mK
  rw [List.filter_map, List.map_map]
  rfl
theorem rem_app (xs : List Nat) : ∀ (ts : List (Int × List Nd)) (t : Int × List Nd) (k : Nat), rem xs (ts ++ [t]) k = rem xs ts k ++ mK xs t.2 ((k + ts.length : Nat) : Int)
  | [], t, k => by simp [rem]
  | u :: ts, t, k => by
    rw [List.cons_append, rem, rem, rem_app xs ts t (k + 1), List.append_assoc, List.length_cons, show k + 1 + ts.length = k + (ts.length + 1) by omega]
theorem gall_keys (xs : List Nat) : ∀ (n : Nat) (ts : List (Int × List Nd)), ts.length = n → ((gall ts).filter fun s => fB xs s.1).map (fun s => ck s.2) = rem xs ts 0
  | 0, ts, h => by
    obtain rfl := List.length_eq_zero_iff.1 h
    simp [gall, rem]
  | n + 1, ts, h => by
    obtain ⟨us, t, rfl⟩ : ∃ us t, ts = us ++ [t] := ⟨ts.dropLast, ts.getLast (by intro e; rw [e] at h; simp at h), (List.dropLast_concat_getLast _).symm⟩
    have hl : us.length = n := by simpa using h
    rw [gall_snoc, List.filter_append, List.map_append, gall_keys xs n us hl, gat_keys, rem_app, Nat.zero_add]
/-- What all lists tell to be false. -/
def allF (xs : List Nat) (T : List Lst) : List Ct := T.flatMap fun t => fls t.ns t.cs t.ls (xs.getD t.ft.toNat 0)
theorem allF_perm {ts : List (Int × List Nd)} {T : List Lst} (h : IsL (gall ts) T) (hG : ∀ s ∈ gall ts, GOk s) {xs : List Nat} (hx : ∀ i, xs.getD i 0 < 18446744073709551616) : ((allF xs T).map ck).Perm (rem xs ts 0) := by
  rw [← gall_keys xs ts.length ts rfl]
  have hn : (T.map (·.ft)).Nodup := by
    show List.Pairwise _ _
    rw [List.pairwise_map]
    exact h.rise.imp fun q => by omega
  have h1 := part_perm (p := fun s : Nd × Ct => fB xs s.1) (T.map (·.ft)) (gall ts) hn (fun s hs => by
    obtain ⟨t, ht, e⟩ := (h.mem s.1.ft).1 ⟨s, hs, rfl⟩
    exact List.mem_map.2 ⟨t, ht, e⟩)
  have h2 : (allF xs T).Perm (((T.map (·.ft)).flatMap fun f => (gall ts).filter fun s => s.1.ft == f && fB xs s.1).map (·.2)) := by
    unfold allF
    have key : ∀ (M : List Lst), (∀ t ∈ M, t ∈ T) → (M.flatMap fun t => fls t.ns t.cs t.ls (xs.getD t.ft.toNat 0)).Perm (((M.map (·.ft)).flatMap fun f => (gall ts).filter fun s => s.1.ft == f && fB xs s.1).map (·.2)) := by
      intro M
      induction M with
      | nil => intro _; exact List.Perm.refl _
      | cons t M ih =>
        intro hM
        rw [List.flatMap_cons, List.map_cons, List.flatMap_cons, List.map_append]
        exact List.Perm.append (fls_perm h hG (hM t List.mem_cons_self) (hx _)) (ih fun u hu => hM u (List.mem_cons_of_mem _ hu))
    exact key T fun t ht => ht
  have h3 := (h2.map ck).trans ((h1.map (fun s : Nd × Ct => s.2)).map ck)
  rw [List.map_map] at h3
  exact h3
/-- The keys that are not yet used. -/
def unK : List Ky → List Bool → List Ky
  | [], _ => []
  | κ :: C, [] => []
  | κ :: C, u :: U => if u then unK C U else κ :: unK C U
theorem unK_none (C : List Ky) : unK C (List.replicate C.length false) = C := by
  induction C with
  | nil => rfl
  | cons κ C ih => rw [List.length_cons, List.replicate_succ, unK, if_neg (by simp), ih]
theorem unK_mem : ∀ {C : List Ky} {U : List Bool} {κ : Ky}, κ ∈ unK C U → ∃ j, j < C.length ∧ j < U.length ∧ U.getD j false = false ∧ C.getD j (0, 0, 0) = κ
  | [], _, κ, h => by simp [unK] at h
  | c :: C, [], κ, h => by simp [unK] at h
  | c :: C, u :: U, κ, h => by
    rw [unK] at h
    cases u with
    | true =>
      rw [if_pos rfl] at h
      obtain ⟨j, h1, h2, h3, h4⟩ := unK_mem h
      exact ⟨j + 1, by simpa using h1, by simpa using h2, by simpa using h3, by simpa using h4⟩
    | false =>
      rw [if_neg (by simp)] at h
      rcases List.mem_cons.1 h with rfl | h
      · exact ⟨0, by simp, by simp, rfl, rfl⟩
      · obtain ⟨j, h1, h2, h3, h4⟩ := unK_mem h
        exact ⟨j + 1, by simpa using h1, by simpa using h2, by simpa using h3, by simpa using h4⟩
theorem unK_use : ∀ {C : List Ky} {U : List Bool} {j : Nat}, j < C.length → j < U.length → U.getD j false = false → (C.getD j (0, 0, 0) :: unK C (U.set j true)).Perm (unK C U)
  | [], _, j, h, _, _ => by simp at h
  | c :: C, [], j, _, h, _ => by simp at h
  | c :: C, u :: U, 0, _, _, h => by
    simp at h
    subst h
    simp [unK]
  | c :: C, u :: U, j + 1, h1, h2, h3 => by
    have ih := unK_use (C := C) (U := U) (j := j) (by simpa using h1) (by simpa using h2) (by simpa using h3)
    rw [List.set_cons_succ, List.getD_cons_succ]
    cases u with
    | true => rw [unK, unK, if_pos rfl, if_pos rfl]; exact ih
    | false =>
      rw [unK, unK, if_neg (by simp), if_neg (by simp)]
      exact (List.Perm.swap _ _ _).trans (ih.cons c)
/-- make([]bool, n), outside a fence. -/
theorem wpList_makeB (w : World) {ops : Array Oper} {rest : List Oper} {o : Oper} {a : Act} {Q : Exit → Act → World → Prop}
    (hg : o.guard = none) (l c : Operand) (hop : o.op = Op.makeSlice 48 l c) (kl kc : IntKind) (X C : Int) (n : Nat) (hl : a.eval l = .int kl X) (hc : a.eval c = .int kc C) (hL : X = (n : Int)) (hC : C = (n : Int)) (hn : n ≤ 17592186044416)
    (hK : ∀ w', Mk.RowB w' w.heap.size (List.replicate n false) → Keep w w' → w'.heap.size = w.heap.size + 1 → wpList Try.prog ops Q rest (a.put o.dst (.slice (some ⟨w.heap.size, 0, none⟩) n n)) w') :
    wpList Try.prog ops Q (o :: rest) a w := by
  refine wpList_plain hg fun K hK' => ?_
  obtain ⟨i, hi, hz0, hz1, hz2⟩ := info_parts Mk.i4
  have hr := run_make (P := Try.prog) w 48 4 i _ Try.underlying48 hi hz0 kl kc n n (by omega) (by omega) (by rw [hz2]; omega) (by omega)
  subst hL
  subst hC
  rw [hz1] at hr
  unfold Oper.wp
  simp only [Int.toNat_natCast, Nat.mul_one, Mk.made4] at hr
  simp [execOp, hop, hl, hc, hr, Result.andThen]
  exact hK' _ _ (hK _ (heap_alloc_new w _) ((Keep.refl w).alloc _) (by simp))
end Go.Proofs.Ytaogjiffnebnkaa
set_option linter.unusedVariables false
set_option linter.unusedSimpArgs false
namespace Go.Proofs.Ytaogjiffnebnkaa
open Go.RowKit Go.Shelf Go.Maps
theorem tkE_ft {L : List Nd} {F : Int} (h : tkE L F = 0) : ∀ m ∈ mkl L, (L.getD m.1 nd0).ft < F := by
  intro m hm
  unfold tkE at h
  rw [if_neg (by simpa using tkE_tr h)] at h
  by_cases q : ∃ m ∈ mkl L, F ≤ (L.getD m.1 nd0).ft
  · rw [if_pos q] at h; cases h
  · exact Int.not_le.1 fun q2 => q ⟨m, hm, q2⟩
theorem gall_ft {ts : List (Int × List Nd)} {F : Int} (h : ∀ j, j < ts.length → tkE (ts.getD j (0, [])).2 F = 0) : ∀ s ∈ gall ts, 0 ≤ s.1.ft ∧ s.1.ft < F := by
  intro s hs
  obtain ⟨k, hk, hg⟩ := mem_gall.1 hs
  have hT := h k hk
  unfold gat at hg
  obtain ⟨m, hm, rfl⟩ := List.mem_map.1 hg
  exact ⟨((mkl_ok (tkE_tr hT)).2 m hm).2.2.2.1, tkE_ft hT m hm⟩
/-- masks.False finds no fault in a tree that has lists. -/
theorem lvG_zero {L : List Nd} {X : Nat} (h : tkE L (X : Nat) = 0) : Mk.lvG (L.map Nd.m) X = 0 := by
  have hE : Mk.lvE (L.map Nd.m) = 0 := tkE_tr h
  unfold Mk.lvG
  rw [if_neg (by simpa using hE)]
  have : Mk.lackB (L.map Nd.m) X = false := by
    refine Mk.lackB_no fun j hj hq => ?_
    rw [getD_m] at hq
    rw [List.length_map] at hj
    obtain ⟨m, hm, rfl⟩ := mk_all (tkE_tr h) hj hq.1
    have h1 := tkE_ft h m hm
    have h2 : (X : Int) ≤ (L.getD m.1 nd0).ft := hq.2
    omega
  rw [this]; rfl
theorem flm_mkl {L : List Nd} (xs : List Nat) : Mk.flm (L.map Nd.m) xs (mkl L) = (mkl L).filter fun m => fB xs (L.getD m.1 nd0) := by
  unfold Mk.flm
  refine List.filter_congr fun m _ => ?_
  unfold Mk.rgtB fB
  rw [getD_m]
  rfl
theorem stp_cell {g : Nat} {A B : World} (h : Mk.Stp (fun b => b = g) A B) {b o : Nat} {v : Value} (hb : b ≠ g) (hc : A.cell? ⟨b, o, none⟩ = some v) : B.cell? ⟨b, o, none⟩ = some v := by
  have := World.block_lt_of_cell? A _ hc
  rw [World.cell?_of_block (a := ⟨b, o, none⟩) (h.block b this hb)]
  exact hc
theorem stp_keep {g : Nat} {v A B : World} (h : Mk.Stp (fun b => b = g) A B) (k : Keep v A) (hg : v.heap.size ≤ g) : Keep v B :=
  ⟨h.os.trans k.os, h.tape.trans k.tape, h.output.trans k.output, Nat.le_trans k.size h.size, fun b hb => (h.block b (Nat.lt_of_lt_of_le hb k.size) (by omega)).trans (k.block b hb)⟩
theorem stp_trans {g : Nat} {A B C : World} (h : Mk.Stp (fun b => b = g) A B) (k : Mk.Stp (fun b => b = g) B C) : Mk.Stp (fun b => b = g) A C :=
  ⟨k.os.trans h.os, k.tape.trans h.tape, k.output.trans h.output, Nat.le_trans h.size k.size, fun b hb hn => (k.block b (Nat.lt_of_lt_of_le hb h.size) hn).trans (h.block b hb hn)⟩
theorem stp_of_keep {g : Nat} {A B : World} (k : Keep A B) : Mk.Stp (fun b => b = g) A B := ⟨k.os, k.tape, k.output, k.size, fun b hb _ => k.block b hb⟩
theorem stp_ownC {g B0 : Nat} {A B : World} {v : Value} {K : List CI} {U : List Bool} (h : Mk.Stp (fun b => b = g) A B) (hR : Mk.RowB A g U) (hO : OwnC B0 A v K) : OwnC B0 B v K := by
  refine hO.same fun b hb => ?_
  obtain ⟨-, cur, hc⟩ := hO.block hb
  refine h.block b (Array.getElem?_eq_some_iff.1 hc).1 fun e => ?_
  have e' : b = g := e
  subst e'
  unfold Mk.RowB at hR
  rw [hR] at hc
  simp at hc
theorem rowB_keep {g : Nat} {A B : World} {U : List Bool} (h : Mk.RowB A g U) (k : Keep A B) : Mk.RowB B g U := by
  unfold Mk.RowB at h ⊢
  rw [k.block g (Array.getElem?_eq_some_iff.1 h).1]; exact h
theorem allF_snoc {xs : List Nat} {T : List Lst} {i : Nat} (hi : i < T.length) : allF xs (T.take (i + 1)) = allF xs (T.take i) ++ fls (T.getD i lst0).ns (T.getD i lst0).cs (T.getD i lst0).ls (xs.getD (T.getD i lst0).ft.toNat 0) := by
  unfold allF
  rw [List.take_succ_eq_append_getElem hi, List.flatMap_append]
  simp [List.getD, hi]
theorem allF_le {xs : List Nat} {T : List Lst} (i : Nat) : (allF xs (T.take i)).length ≤ (allF xs T).length := by
  have h : allF xs T = allF xs (T.take i) ++ allF xs (T.drop i) := by
    unfold allF
    rw [← List.flatMap_append, List.take_append_drop]
  rw [h, List.length_append]
  omega
theorem rem_len (xs : List Nat) {ts : List (Int × List Nd)} : (rem xs ts 0).length ≤ (gall ts).length := by
  rw [← gall_keys xs ts.length ts rfl, List.length_map]
  exact List.length_filter_le _ _
theorem rem_drop (xs : List Nat) {ts : List (Int × List Nd)} {k : Nat} (hk : k < ts.length) : rem xs (ts.drop k) k = mK xs (ts.getD k (0, [])).2 (k : Nat) ++ rem xs (ts.drop (k + 1)) (k + 1) := by
  rw [List.drop_eq_getElem_cons hk, rem]
  simp [List.getD, hk]
end Go.Proofs.Ytaogjiffnebnkaa
