import Derived.Test.YtpdjpjkieafnbaaGreatDoorProg
import Derived.Test.YtpdjpjkieafnbaaGreatDoorLE7
import Derived.Test.YtpdjpjkieafnbaaGreatDoorLF10
import Derived.WalkKit
import Derived.WalkSpells
import Derived.WalkLawsBesides
import Derived.Laws.CopyOwn
import Derived.Deep.Draws
import Derived.Deep.QuietTactic
import Derived.BigQuiet
import Derived.Test.YtpdjpjkieafnbaaGreatDoorShelf
import Derived.Laws.MathBits
import Derived.Laws.BytesArg
import Derived.Lib.OthersKept
set_option linter.unusedVariables false
set_option linter.unusedSimpArgs false
namespace Go.Proofs.YtpdjpjkieafnbaaGreatDoor.Li
open Go.RowKit Lb
/-- make([]uint32, 0, n). -/
theorem wpList_make32_0 (w : World) {ops : Array Oper} {rest : List Oper} {o : Oper} {a : Act} {Q : Exit → Act → World → Prop}
    (hg : o.guard = none) (l c : Operand) (hop : o.op = Op.makeSlice 52 l c) (kl kc : IntKind) (C : Int) (n : Nat) (hl : a.eval l = .int kl 0) (hc : a.eval c = .int kc C) (hC : C = (n : Int)) (hn : n ≤ 70368744177664)
    (hK : ∀ w', Row w' w.heap.size (List.replicate n 0) → Keep w w' → w'.heap.size = w.heap.size + 1 → wpList Tryz.prog ops Q rest (a.put o.dst (.slice (some ⟨w.heap.size, 0, none⟩) 0 n)) w') :
    wpList Tryz.prog ops Q (o :: rest) a w := by
  refine wpList_plain hg fun K hK' => ?_
  obtain ⟨i, hi, hz0, hz1, hz2⟩ := info_parts i62
  have hr := run_make (P := Tryz.prog) w 52 40 i _ Tryz.underlying52 hi hz0 kl kc 0 n (by omega) (by omega) (by rw [hz2]; omega) (by omega)
  subst hC
  rw [hz1] at hr
  unfold Oper.wp
  simp only [Int.toNat_natCast, Nat.mul_one, made32, Int.toNat_zero] at hr
  simp [execOp, hop, hl, hc, hr, Result.andThen]
  exact hK' _ _ (hK _ (heap_alloc_new w _) ((Keep.refl w).alloc _) (by simp))
end Go.Proofs.YtpdjpjkieafnbaaGreatDoor.Li
set_option linter.unusedVariables false
set_option linter.unusedSimpArgs false
namespace Go.Proofs.YtpdjpjkieafnbaaGreatDoor.Li
open Go.RowKit Lb
theorem S8_size (l : List Nat) : (S8 l).size = l.length := by simp [S8, ByteArray.size]
end Go.Proofs.YtpdjpjkieafnbaaGreatDoor.Li
set_option linter.unusedVariables false
set_option linter.unusedSimpArgs false
namespace Go.Proofs.YtpdjpjkieafnbaaGreatDoor.Li
open Go.RowKit Lb
/-- out = append(out, x) within its capacity. -/
theorem wpList_appfits32 {wr : World} {ops : Array Oper} {rest : List Oper} {o : Oper} {a : Act} {Q : Exit → Act → World → Prop} (hgd : o.guard = none) (s x : Operand)
    (ho : o.op = .call { callee := .builtin .append, args := #[s, x], argTypes := #[52, 52] }) (g n : Nat) (rk : List Nat) (hs : a.eval s = .slice (some ⟨g, 0, none⟩) n rk.length) (Y : Int) (y : Nat) (hY : Y = (y : Int))
    (hx : a.eval x = .slice (some ⟨wr.heap.size, 0, none⟩) 1 1) (hrow : Row wr g rk) (hn : n < rk.length)
    (hK : ∀ w1, Row w1 g (rk.set n y) → Gr g wr w1 → wpList Tryz.prog ops Q rest (a.put o.dst (.slice (some ⟨g, 0, none⟩) (n + 1) rk.length)) w1) :
    wpList Tryz.prog ops Q (o :: rest) a (wr.alloc (.cells #[.int .u32 Y] 40)) := by
  obtain ⟨i0, hi, hz0, hz1, hz2⟩ := info_parts i62
  subst hY
  refine wpList_plain hgd fun K hK' => ?_
  have hk : Keep wr (wr.alloc (.cells #[.int .u32 (y : Int)] 40)) := (Keep.refl wr).alloc _
  have hrow1 := hrow.keep hk
  have hrun := run_append_room (P := Tryz.prog) (wr.alloc (.cells #[.int .u32 (y : Int)] 40)) 52 o.type 40 i0 Tryz.underlying52 hi g n rk.length _ hrow1 ⟨wr.heap.size, 0, none⟩ 1 1 [.int .u32 (y : Int)] (by simp [hz1]) (by
    intro j u hj
    match j, hj with
    | 0, hj => simp at hj; subst hj; simp [Addr.add]) (by intro u hu; simp at hu; subst hu; rfl) (by omega) (by simp [hz1, U]; omega)
  unfold Oper.wp
  simp [execOp, ho, resolve, invoke, builtin, hs, hx, hrun, Result.andThen]
  refine hK' _ _ (hK _ ?_ ?_)
  · unfold Row
    have eU : U (rk.set n y) = (U rk).take n ++ ([.int .u32 (y : Int)] ++ (U rk).drop (n + 1)) := by
      unfold U
      rw [List.map_set, List.set_eq_take_append_cons_drop, if_pos (by simpa using hn)]
      rfl
    rw [setRow_heap _ g _ _ 40 _ hrow1, eU]
    simp [hz1]
  · exact (hk.gr g).trans (Mut.setRow _ _ _).gr
theorem pushStep (X V A t y f x z c : Nat) (hv : V + t * X = A * f + x) (h : c * 4294967296 + z = t + y * f) : (V + X * z) + c * (X * 4294967296) = (A + y * X) * f + x := by
  have h2 : (c * 4294967296 + z) * X = (t + y * f) * X := by rw [h]
  grind
set_option maxRecDepth 100000 in
set_option maxHeartbeats 400000 in
theorem pushChunk_any (g : Nat) (n f x : Nat) (r : List Nat) (w : World) (hrl : r.length ≤ 70368744177664) (hn : n < r.length) (hrow : Row w g r) (hm : Lim r) (hf : f < 4294967296) (hx : x < 4294967296) :
    Calls Tryz.prog 158 #[.slice (some ⟨g, 0, none⟩) n r.length, .int .u32 (f : Nat), .int .u32 (x : Nat)] w fun e w' => ∃ n' r', e = .returned (.slice (some ⟨g, 0, none⟩) n' r.length) ∧ n ≤ n' ∧ n' ≤ n + 1 ∧ Row w' g r' ∧ r'.length = r.length ∧ Lim r' ∧ val (r'.take n') = val (r.take n) * f + x ∧ Gr g w w' := by
  go_enter Tryz.func158, Tryz.ntmps158
  go_wp2
  go_loopw [7, 13] (fun c i wr => ∃ (k t : Nat) (q : List Nat), k ≤ n ∧ t < 4294967296 ∧ i = .int .i64 k ∧ c = .int .u64 t ∧ Row wr g (q ++ r.drop k) ∧ Hid (q.length = k) ∧ Lim q ∧ Hid (val q + t * 4294967296 ^ k = val (r.take k) * f + x) ∧ Mut g w wr) (fun _ i _ => n - (intOf i).toNat)
  case atStart => exact ⟨0, x, [], by omega, hx, rfl, rfl, by simpa using hrow, rfl, by intro y hy; simp at hy, by show _ = _; simp [val], Mut.refl _ _⟩
  case round =>
    obtain ⟨k, t, q, hk, ht, rfl, rfl, hrk, hql, hmq, hv, hmut⟩ := hrel
    by_cases hkl : k < n
    · have hc := hrk.cell k (by have := hql.out; simp; omega)
      rw [get_at q r k hql.out (by omega)] at hc
      have hfz := hrk.frozen k
      obtain ⟨y, hy⟩ : ∃ y, r.getD k 0 = y := ⟨_, rfl⟩
      have hyl : y < 4294967296 := hy ▸ Lim_getD hm _
      rw [hy] at hc
      have Hy : Hid (r.getD k 0 = y) := hy; clear hy
      have hp := prodB y f hyl hf
      have hpi : (y : Int) * (f : Int) ≤ 18446744065119617025 := by rw [← Int.natCast_mul]; omega
      have hpi0 : 0 ≤ (y : Int) * (f : Int) := by rw [← Int.natCast_mul]; omega
      go_wp2
      go_roundw
      case rel =>
        have hdm := Nat.div_add_mod' (t + y * f) 4294967296
        refine ⟨k + 1, (t + y * f) / 4294967296, q ++ [(t + y * f) % 4294967296], by omega, by omega, by go_num, by simp, ?_, ?_, Lim_snoc hmq _ (by omega), ?_, hmut.setCell _ _⟩
        · have h1 := hrk.set k ((t + y * f) % 4294967296)
          rw [set_at q r k _ hql.out (by omega)] at h1
          simpa using h1
        · show _ = _
          have := hql.out
          simp; omega
        · show _ = _
          rw [val_snoc, hql.out, val_take_succ, Hy.out, Nat.pow_succ]
          exact pushStep _ _ _ _ _ _ _ _ _ hv.out hdm
      case measure => simp [intOf]; omega
    · have hkn : k = n := by omega
      subst hkn
      by_cases ht0 : 0 < t
      · have hlen : (q ++ r.drop k).length = r.length := by have := hql.out; simp; omega
        have hlt : k < (q ++ r.drop k).length := by omega
        rw [← hlen]
        go_wp2_with (at_builtin; refine wpList_appfits32 rfl _ _ rfl g k (q ++ r.drop k) rfl _ t ?_ rfl hrk hlt ?_; rotate_left; intro w1 hrow1 hgr1)
        go_ret
        · refine ⟨k + 1, (q ++ r.drop k).set k t, rfl, by omega, Nat.le_refl _, hrow1, by simp only [List.length_set]; exact hlen, ?_, ?_, hmut.gr.trans hgr1⟩
          · refine Lim_set ?_ _ _ ht
            intro y hy
            rcases List.mem_append.1 hy with hy | hy
            · exact hmq y hy
            · exact hm y (List.mem_of_mem_drop hy)
          · have h1 := hv.out
            have h2 := hql.out
            rw [set_at q r k t h2 hn, List.take_append_of_le_length (by simp; omega), List.take_of_length_le (by simp; omega), val_snoc, h2, Nat.mul_comm]
            exact h1
        · omega
      · go_wp2_with fail
        go_ret
        have ht1 : t = 0 := by omega
        subst ht1
        refine ⟨k, q ++ r.drop k, rfl, Nat.le_refl _, by omega, hrk, ?_, ?_, ?_, hmut.gr⟩
        · have := hql.out; simp; omega
        · intro y hy
          rcases List.mem_append.1 hy with hy | hy
          · exact hmq y hy
          · exact hm y (List.mem_of_mem_drop hy)
        · have h1 := hv.out
          rw [List.take_append_of_le_length (by have := hql.out; omega), List.take_of_length_le (by have := hql.out; omega)]
          omega
end Go.Proofs.YtpdjpjkieafnbaaGreatDoor.Li
set_option linter.unusedVariables false
set_option linter.unusedSimpArgs false
namespace Go.Proofs.YtpdjpjkieafnbaaGreatDoor.Li
open Go.RowKit Lb
def numv (l : List Nat) : Nat := l.foldl (fun a x => a * 10 + (x - 48)) 0
theorem numv_snoc (l : List Nat) (x : Nat) : numv (l ++ [x]) = numv l * 10 + (x - 48) := by simp [numv, List.foldl_append]
theorem S8_get (cs : List Nat) (k : Nat) (h : k < (S8 cs).size) (hx : cs.getD k 0 < 256) : ((S8 cs)[k]'h).toNat = cs.getD k 0 := by
  have hk : k < cs.length := by rw [S8_size] at h; exact h
  have e : (S8 cs)[k]'h = UInt8.ofNat (cs.getD k 0) := by
    show (S8 cs).data[k]'_ = _
    simp [S8, List.getD, hk]
  rw [e]
  exact UInt8.toNat_ofNat_of_lt hx
theorem iterAt_keep {a w : World} (h : Keep a w) {k : Nat} (hk : a.heap.size ≤ k) (s : ByteArray) (pos : Nat) : Keep a (w.iterAt k s pos) := Lib.below_iterAt h hk s pos
theorem Row.iterAt {w : World} {g k : Nat} {l : List Nat} (h : Row w g l) (hne : g ≠ k) (s : ByteArray) (pos : Nat) : Row (w.iterAt k s pos) g l := by
  unfold Row; rw [Lib.iterAt_other w k g s pos hne]; exact h
theorem iter_gr {w w' : World} {g k : Nat} {o : Obj} (h : w.heap[k]? = some o) (hg : Gr g w w') (hne : k ≠ g) : w'.heap[k]? = some o := by
  rw [hg.block k (Array.getElem?_eq_some_iff.1 h).1 hne]; exact h
theorem Keep.trans_gr {a b c : World} {g : Nat} (h : Keep a b) (k : Gr g b c) (hg : a.heap.size ≤ g) : Keep a c :=
  ⟨k.os.trans h.os, k.tape.trans h.tape, k.output.trans h.output, Nat.le_trans h.size k.size, fun i hi => (k.block i (Nat.lt_of_lt_of_le hi h.size) (by omega)).trans (h.block i hi)⟩
set_option maxRecDepth 100000 in
set_option maxHeartbeats 800000 in
theorem joinedChunks_any (cs : List Nat) (w : World) (hcs : ∀ x ∈ cs, 48 ≤ x ∧ x < 58) (hl : cs.length ≤ 140737488355328) :
    Calls Tryz.prog 117 #[.string (S8 cs)] w fun e w' => ∃ v, e = .returned v ∧ NatR w.heap.size w' v (numv cs) ∧ Keep w w' := by
  have hsz := S8_size cs
  have hcap : cs.length / 9 + 1 ≤ 70368744177664 := by omega
  go_enter Tryz.func117, Tryz.ntmps117
  go_wp2_with (at_make; refine wpList_make32_0 _ rfl _ _ rfl _ _ _ (cs.length / 9 + 1) rfl rfl ?_ hcap ?_; rotate_left; intro w1 hrow hk hsz1)
  · have hrow0 : Row (w1.iter (S8 cs) 0) w.heap.size (List.replicate (cs.length / 9 + 1) 0) := by
      have : Keep w1 (w1.iter (S8 cs) 0) := (Keep.refl w1).alloc _
      exact hrow.keep this
    have hit0 : (w1.iter (S8 cs) 0).heap[w.heap.size + 1]? = some (.stringIter (S8 cs) 0) := by rw [← hsz1]; exact World.iter_heap w1 _ 0
    have hk0 : Keep w (w1.iter (S8 cs) 0) := hk.alloc _
    generalize w1.iter (S8 cs) 0 = w2 at hrow0 hit0 hk0 ⊢
    clear hrow hk hsz1
    go_loopw [3, 4, 5] (fun vo vc vf wr => ∃ (k m C F p : Nat) (r : List Nat), k ≤ cs.length ∧ wr.heap[w.heap.size + 1]? = some (.stringIter (S8 cs) k) ∧ vo = .slice (some ⟨w.heap.size, 0, none⟩) m (cs.length / 9 + 1) ∧ vc = .int .u32 (C : Nat) ∧ vf = .int .u32 (F : Nat) ∧ C < F ∧ F ≤ 100000000 ∧ p ≤ 8 ∧ Hid (F ≤ 10 ^ p) ∧ Hid ((cs.length - k + p) % 9 = 0) ∧ Hid (9 * m + (cs.length - k) + p ≤ cs.length + 8) ∧ Row wr w.heap.size r ∧ Hid (r.length = cs.length / 9 + 1) ∧ Lim r ∧ Hid (val (r.take m) * F + C = numv (cs.take k)) ∧ Keep w wr) (fun _ _ _ wr => cs.length - wr.iterPos (w.heap.size + 1))
    case atStart => exact ⟨0, 0, 0, 1, (9 - cs.length % 9) % 9, _, by omega, hit0, rfl, rfl, rfl, by omega, by omega, by omega, Nat.one_le_pow _ _ (by omega), by show _ = _; omega, by show _ ≤ _; omega, hrow0, by show _ = _; simp, by intro x hx; simp at hx; omega, by show _ = _; simp [val, numv], hk0⟩
    case round =>
      obtain ⟨k, m, C, F, p, r, hk, hit, rfl, rfl, rfl, hCF, hF, hp, hFp, hmod, hsize, hrow, hrl, hmr, hval, hkp⟩ := hrel
      by_cases hkl : k < cs.length
      · obtain ⟨x, hx⟩ : ∃ x, cs.getD k 0 = x := ⟨_, rfl⟩
        have hxm : x ∈ cs := by rw [← hx]; simp [List.getD, hkl]
        have hxr := hcs x hxm
        obtain ⟨hx1, hx2⟩ := hxr
        have hks : k < (S8 cs).size := by rw [hsz]; exact hkl
        have hb : ((S8 cs)[k]'hks).toNat = x := by rw [S8_get cs k hks (by omega)]; exact hx
        have hnx := fun ty => Lib.run_next_ascii_at (P := Tryz.prog) wr (w.heap.size + 1) (S8 cs) k ty hit hks (by omega)
        rw [hb] at hnx
        have hit1 := Lib.iterAt_heap wr (w.heap.size + 1) (S8 cs) k (k + 1) hit
        have hrow1 : Row (wr.iterAt (w.heap.size + 1) (S8 cs) (k + 1)) w.heap.size r := hrow.iterAt (by omega) _ _
        have hkp1 : Keep w (wr.iterAt (w.heap.size + 1) (S8 cs) (k + 1)) := iterAt_keep hkp (by omega) _ _
        have Htk : Hid (numv (cs.take (k + 1)) = numv (cs.take k) * 10 + (x - 48)) := by show _ = _; rw [take_snoc cs k hkl, hx, numv_snoc]
        have Hit := hit
        clear hb hx hxm hcs hit hrow hkp hks
        generalize wr.iterAt (w.heap.size + 1) (S8 cs) (k + 1) = w3 at hnx hit1 hrow1 hkp1
        by_cases h9 : (cs.length - 1 - k) % 9 = 0
        · have h9' : (((cs.length : Int) - 1 - (k : Int)) % 9 == 0) = true := by simp; omega
          have hF9 : F * 10 < 4294967296 := by omega
          have hC9 : C * 10 + (x - 48) < F * 10 := by omega
          have hmm : m < cs.length / 9 + 1 := by have h1 := hmod.out; have h2 := hsize.out; omega
          have hP := pushChunk_any w.heap.size m (F * 10) (C * 10 + (x - 48)) r w3 (by rw [hrl.out]; omega) (by rw [hrl.out]; exact hmm) hrow1 hmr hF9 (by omega)
          rw [show ((F * 10 : Nat) : Int) = (F : Int) * 10 from by omega, show ((C * 10 + (x - 48) : Nat) : Int) = (C : Int) * 10 + ((x : Int) - 48) from by omega, hrl.out] at hP
          go_wp2_with fail
          refine hP.mono ?_
          rintro e w4 ⟨m', r', rfl, hm1, hm2, hrow4, hrl4, hmr4, hval4, hgr4⟩
          have hit4 := iter_gr hit1 hgr4 (by omega)
          have hkp4 : Keep w w4 := hkp1.trans_gr hgr4 (Nat.le_refl _)
          clear hP hnx hit1 hrow1
          go_wp2_with fail
          go_roundw
          case rel =>
            refine ⟨k + 1, m', 0, 1, 0, r', by omega, hit4, rfl, rfl, rfl, by omega, by omega, by omega, by show _ ≤ _; simp, by show _ = _; omega, ?_, hrow4, hrl4, hmr4, ?_, hkp4⟩
            · show _ ≤ _
              have h1 := hmod.out
              have h2 := hsize.out
              omega
            · show _ = _
              rw [hval4, Htk.out, ← hval.out]
              grind
          case measure => rw [iterPos_of hit4, iterPos_of Hit]; omega
        · have h9' : (((cs.length : Int) - 1 - (k : Int)) % 9 == 0) = false := by simp; omega
          have hp7 : p ≤ 7 := by have h1 := hmod.out; omega
          have hF7 : F * 10 ≤ 10 ^ (p + 1) := by have h1 : F ≤ 10 ^ p := hFp; rw [Nat.pow_succ]; omega
          have hF8 : F * 10 ≤ 100000000 := Nat.le_trans hF7 (Nat.pow_le_pow_right (by omega) (show p + 1 ≤ 8 by omega))
          have HF7 : Hid (F * 10 ≤ 10 ^ (p + 1)) := hF7
          clear hF7
          go_wp2_with fail
          go_roundw
          case rel =>
            refine ⟨k + 1, m, C * 10 + (x - 48), F * 10, p + 1, r, by omega, hit1, rfl, by go_num, by go_num, by omega, hF8, by omega, HF7, by show _ = _; have h1 := hmod.out; omega, by show _ ≤ _; have h2 := hsize.out; omega, hrow1, hrl, hmr, ?_, hkp1⟩
            show _ = _
            rw [Htk.out, ← hval.out]
            grind
          case measure => rw [iterPos_of hit1, iterPos_of Hit]; omega
      · have hke : k = cs.length := by omega
        have hnx := fun ty => Lib.run_next_end_at (P := Tryz.prog) wr (w.heap.size + 1) (S8 cs) k ty hit (by rw [hsz]; omega)
        have hp0 : p = 0 := by have h1 := hmod.out; omega
        have hF1 : F ≤ 1 := by have h1 : F ≤ 10 ^ p := hFp; rw [hp0] at h1; simpa using h1
        have hml : m ≤ cs.length / 9 + 1 := by have h2 := hsize.out; omega
        have hlm : (r.take m).length = m := by rw [List.length_take, hrl.out]; omega
        have hT := trim_any (some ⟨w.heap.size, 0, none⟩) (cs.length / 9 + 1) (r.take m) wr (by omega) (by omega) (by have := hrow.rd 0 m (by rw [hrl.out]; omega); simpa using this)
        rw [hlm] at hT
        have hvv : val (r.take m) = numv cs := by
          have h1 := hval.out
          rw [hke, List.take_of_length_le (Nat.le_refl _), show F = 1 by omega, show C = 0 by omega] at h1
          omega
        have Hv : Hid (val (r.take m) = numv cs) := hvv
        clear hvv
        go_wp2_with fail
        refine hT.mono ?_
        rintro e w5 ⟨rfl, rfl⟩
        go_wp2_with fail
        go_ret
        refine ⟨_, rfl, ?_, hkp⟩
        have hres : Res w.heap.size w5 (.slice (some ⟨w.heap.size, 0, none⟩) m (cs.length / 9 + 1)) (r.take m) := by
          have := (hrow.res (Nat.le_refl w.heap.size)).cut (show m ≤ r.length by rw [hrl.out]; exact hml)
          rw [hrl.out] at this
          exact this
        rw [← Hv.out]
        exact NatR.of_trim hres (Lim_take hmr m)
  · simp
end Go.Proofs.YtpdjpjkieafnbaaGreatDoor.Li
