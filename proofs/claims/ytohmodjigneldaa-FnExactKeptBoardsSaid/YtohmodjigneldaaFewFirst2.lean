/- FirstOver of both sides. No condition but the texts' lengths. -/
import Derived.Test.YtohmodjigneldaaFewFirst
namespace Go.Proofs.Ytohmodjigneldaa
open Go.RowKit

theorem fiR_no {s t : ByteArray} (h : okFi s t = false) : fiR s t = [] := by unfold fiR; rw [h]; rfl
theorem fiR_yes {s t : ByteArray} (h : okFi s t = true) : fiR s t = foL t s (Tx.fpN (Tx.cB t) (Tx.cB s) t.size) := by unfold fiR; rw [if_pos h]
set_option maxHeartbeats 2000000 in
theorem specFirstOver_any (s t : ByteArray) (w : World) (hs : s.size ≤ maxLen) (ht : t.size ≤ maxLen) :
    Calls Try.prog 11 #[.string s, .string t] w fun e w' => ∃ v, e = .returned (.tuple #[v, .bool (okFi s t)]) ∧ w'.ownsRow w.heap.size 45 3 v (fiR s t).length (strkCells (fiR s t)) ∧ Below w.heap.size w w' := by
  have HC := Lib.hid (stTwo_any s t w hs ht)
  cases h : okFence s && okFence t && decide (s.size = t.size)
  · have HN : okFi s t = false := by unfold okFi okLead; rw [h]; rfl
    rw [HN, fiR_no HN]
    rw [h] at HC
    clear h HN
    go_enter Try.func11, Try.ntmps11
    go_wp2_with fail
    refine HC.out.mono ?_
    rintro e w1 ⟨rfl, rfl⟩
    go_wp2
    go_ret2
    exact ⟨_, rfl, World.ownsRow_nil _ _ _ _, Below.refl _ _⟩
  · rw [h] at HC
    simp only [Bool.and_eq_true, decide_eq_true_iff] at h
    by_cases h12 : t.size ≤ 12
    · have hle : ¬ (12 : Int) < (t.size : Int) := by omega
      cases hl : okLead s t
      · have HN : okFi s t = false := by unfold okFi; rw [hl]; rfl
        have HF := Lib.hid (stFirst_no s t w h.1.1 h.1.2 h.2 hl)
        rw [HN, fiR_no HN]
        clear h hl HN h12
        go_enter Try.func11, Try.ntmps11
        go_wp2_with fail
        refine HC.out.mono ?_
        rintro e w1 ⟨rfl, rfl⟩
        go_wp2_with fail
        refine HF.out.mono ?_
        rintro e w1 ⟨v, rfl, ho, hb⟩
        go_wp2
        go_ret2
        exact ⟨_, rfl, ho, hb⟩
      · have HN : okFi s t = true := by unfold okFi; rw [hl, decide_eq_true h12]; rfl
        have HF := Lib.hid (stFirst_yes s t w hl)
        rw [HN, fiR_yes HN, foL_len]
        clear h hl HN h12
        go_enter Try.func11, Try.ntmps11
        go_wp2_with fail
        refine HC.out.mono ?_
        rintro e w1 ⟨rfl, rfl⟩
        go_wp2_with fail
        refine HF.out.mono ?_
        rintro e w1 ⟨v, rfl, ho, hb⟩
        go_wp2
        go_ret2
        exact ⟨_, rfl, ho, hb⟩
    · have HN : okFi s t = false := by unfold okFi; rw [decide_eq_false h12, Bool.and_false]
      have hle : (12 : Int) < (t.size : Int) := by omega
      rw [HN, fiR_no HN]
      clear h HN h12
      go_enter Try.func11, Try.ntmps11
      go_wp2_with fail
      refine HC.out.mono ?_
      rintro e w1 ⟨rfl, rfl⟩
      go_wp2
      go_ret2
      exact ⟨_, rfl, World.ownsRow_nil _ _ _ _, Below.refl _ _⟩

theorem table_kept {w1 w2 : World} {Z C : Array Value} {ty : TypeId} (h : Below ((w1.alloc (.cells Z ty)).setRow w1.heap.size C).heap.size ((w1.alloc (.cells Z ty)).setRow w1.heap.size C) w2) : w2.heap[w1.heap.size]? = some (.cells C ty (0, 0)) ∧ Below w1.heap.size w1 w2 ∧ w1.heap.size + 1 ≤ w2.heap.size := by
  have e : ((w1.alloc (.cells Z ty)).setRow w1.heap.size C).heap.size = w1.heap.size + 1 := by rw [size_setRow]; simp
  have k := setRow_heap (w1.alloc (.cells Z ty)) w1.heap.size Z C ty (0, 0) (heap_alloc_new w1 _)
  have hs := h.size
  refine ⟨?_, fbelow_next (Tx.below_setRow (below_new w1 _) (Nat.le_refl _)) h, by omega⟩
  rw [h.block _ (by omega)]
  exact k
theorem own_mono {w : World} {base b' n size : Nat} {e : TypeId} {v : Value} {xs : List Value} (h : w.ownsRow base e size v n xs) (hb : b' ≤ base) : w.ownsRow b' e size v n xs := by
  refine ⟨h.1, ?_⟩
  rcases h.2 with hn | ⟨g, cap, cur, rfl, h1, rest⟩
  · exact .inl hn
  · exact .inr ⟨g, cap, cur, rfl, Nat.le_trans hb h1, rest⟩
/-- a list made before lies in no block made later -/
theorem own_old {w w' : World} {base n size : Nat} {e : TypeId} {v : Value} {xs : List Value} (h : w.ownsRow base e size v n xs) (hb : Below w.heap.size w w') : v.ownBlock ≠ some w'.heap.size := fun e => by
  have := (World.ownsRow.lt h _ e).2
  have := hb.size
  omega

theorem box_block {w3 w4 : World} {f l : Int} {c : ByteArray} {o : Obj} {v : Option Nat} (hg : World.grownBy ((w3.alloc (.cells #[.int .i64 f, .int .i64 l, .string c] 45)).alloc o) w4 v) (ha : v ≠ some w3.heap.size) : w4.heap[w3.heap.size]? = some (.cells #[.int .i64 f, .int .i64 l, .string c] 45 (0, 0)) :=
  Tx.iter_kept (Tx.iter_alloc (heap_alloc_new w3 _) _) hg ha
theorem block_cells {w : World} {g : Nat} {f l : Int} {c : ByteArray} {t : TypeId} (h : w.heap[g]? = some (.cells #[.int .i64 f, .int .i64 l, .string c] t (0, 0))) : w.cell? ⟨g, 0, none⟩ = some (.int .i64 f) ∧ w.cell? ⟨g, 1, none⟩ = some (.int .i64 l) ∧ w.cell? ⟨g, 2, none⟩ = some (.string c) := by
  have hr := World.rangeAt_of_block h 0 3
  exact ⟨hr 0 _ rfl, hr 1 _ rfl, hr 2 _ rfl⟩

set_option maxRecDepth 100000 in
set_option maxHeartbeats 8000000 in
theorem implFirstOver_yes (s t : ByteArray) (w : World) (hs : s.size ≤ maxLen) (htz : t.size ≤ maxLen) (h : okLead s t = true) (h12 : t.size ≤ 12) :
    Calls Try.prog 12 #[.string s, .string t] w fun e w' => ∃ v, e = .returned (.tuple #[v, .bool true]) ∧ w'.ownsRow w.heap.size 45 3 v (Tx.fpN (Tx.cB t) (Tx.cB s) t.size) (strkCells (foL t s (Tx.fpN (Tx.cB t) (Tx.cB s) t.size))) ∧ Below w.heap.size w w' := by
  obtain ⟨i0, hi, hz0, hz1, hz2⟩ := info_parts info_strk
  have HC := Lib.hid (canLead_any s t w hs htz)
  rw [h] at HC
  obtain ⟨hs', ht, hst, hl⟩ := okLead_parts h
  have HP := Lib.hid (Tx.strokesOfParts_any t w (okF_len ht).1 (okF_len ht).2)
  have HF := Lib.hid fun W => Tx.fewestByParts_any s t W (okF_len ht).1 (okF_len ht).2 hst
  have hm20 : Tx.fpN (Tx.cB t) (Tx.cB s) t.size ≤ 20 := Tx.fp_20 _ _ _ _
  obtain ⟨m, hm⟩ : ∃ m, m = Tx.fpN (Tx.cB t) (Tx.cB s) t.size := ⟨_, rfl⟩
  rw [show Tx.fpF (Tx.cB t) (Tx.cB s) t.size t.size = m from hm.symm] at HF
  have HST : Hid (∀ k, k < m → ∀ W, Calls Try.prog 31 #[.agg (Tx.tabA (Tx.cB t) t.size), .string (foS t s k), .string t, .int .i64 ((m : Int) - (k : Int))] W fun e w' => e = .returned (.agg #[.int .i64 (foX t s k).f, .int .i64 (foX t s k).t, .string (foX t s k).c]) ∧ Below W.heap.size W w') := Lib.hid fun k hk W => by
    obtain ⟨q1, q2, q3⟩ := fo_at ht hst hl hm.symm k (by omega)
    have := nextStroke_any (foS t s k) t _ _ _ W (okF_len ht).1 (okF_len ht).2 q1 q2 (fo_pick ht hst hl hm.symm k hk)
    rw [q3, show ((m - k : Nat) : Int) = (m : Int) - (k : Int) by omega] at this
    exact this
  have HPT : Hid (∀ k, k < m → ∀ W, Calls Try.prog 32 #[.string (foS t s k), .agg #[.int .i64 (foX t s k).f, .int .i64 (foX t s k).t, .string (foX t s k).c]] W fun e w' => e = .returned (.string (foS t s (k + 1))) ∧ Below W.heap.size W w') := Lib.hid fun k hk W => by
    obtain ⟨q1, q2, q3⟩ := fo_at ht hst hl hm.symm k (by omega)
    have hp := fo_pick ht hst hl hm.symm k hk
    exact painted_any (foS t s k) _ _ _ W (by have := (okF_len ht).2; omega) (Nat.le_refl 1) hp.fl (by rw [q1]; exact hp.ln)
  rw [← hm] at hm20 ⊢
  have HLS := Lib.hid fun k => foL_succ t s k
  have HS0 : Hid (foS t s 0 = s) := Lib.hid rfl
  have HLL := Lib.hid fun k => foL_len t s k
  have HIL : Hid ((Try.prog.info? 42).map (·.size) = some (Tx.tabA (Tx.cB t) t.size).size) := Lib.hid (by rw [Tx.info_tab]; simp [Tx.tabA, Tx.rowF_len])
  have HIS : Hid (Try.zeroCells42.size = (Tx.tabA (Tx.cB t) t.size).size) := Lib.hid (by rw [show Try.zeroCells42.size = 441 from rfl]; simp [Tx.tabA, Tx.rowF_len])
  have HO1 : Hid ((Tx.tabA (Tx.cB t) t.size).all (·.oneCell') = true) := Lib.hid (Tx.rowF_one 441 _)
  obtain ⟨C, hC⟩ : ∃ C, C = Tx.tabA (Tx.cB t) t.size := ⟨_, rfl⟩
  rw [← hC] at HP HF HST HIL HIS HO1
  have hd12 : decide ((12 : Int) < (t.size : Int)) = false := decide_eq_false (by omega)
  clear h hs' ht hst hl hm hC h12
  go_enter Try.func12, Try.ntmps12
  go_wp2_with fail
  refine HC.out.mono ?_
  rintro e w1 ⟨rfl, rfl⟩
  go_wp2_with fail
  refine HP.out.mono ?_
  rintro e w1 ⟨rfl, hb⟩
  have HB1 := Lib.hid hb
  clear hb HC HP
  have HG := Lib.hid (setRow_heap (w1.alloc (.cells Try.zeroCells42 42)) w1.heap.size Try.zeroCells42 C 42 (0, 0) (heap_alloc_new w1 _))
  go_wp2_with (first
    | (refine wpList_load_row rfl 42 (.tmp 6) rfl w1.heap.size rfl 42 _ (0, 0) _ HG.out Try.underlying42 rfl HIL.out ?_)
    | (refine wpList_store_row rfl 42 (.tmp 6) (.tmp 20) rfl w1.heap.size _ rfl rfl 42 _ (heap_alloc_new w1 _) HIL.out HIS.out HO1.out ?_))
  refine (HF.out _).mono ?_
  rintro e w2 ⟨rfl, hb2⟩
  obtain ⟨t1, t2, t3⟩ := table_kept hb2
  have HT0 := Lib.hid t1
  have HB0 := Lib.hid (fbelow_next HB1.out t2)
  have hgw := HB1.out.size
  obtain ⟨g, hg⟩ : ∃ g, g = w1.heap.size := ⟨_, rfl⟩
  rw [← hg] at HT0 hgw t3 ⊢
  have hZ : Hid (g + 1 ≤ w2.heap.size) := Lib.hid t3
  clear t1 t2 t3 hb2 HG HB1 HF HIS HO1 hg
  go_wp2
  go_loopw [0, 7, 8] (fun u v n wr => ∃ k : Nat, k ≤ m ∧ u = .string (foS t s k) ∧ n = .int .i64 ((m : Int) - (k : Int)) ∧ wr.ownsRow (g + 1) 45 3 v k (strkCells (foL t s k)) ∧ wr.heap[g]? = some (.cells C 42 (0, 0)) ∧ Below w.heap.size w wr ∧ g + 1 ≤ wr.heap.size) (fun _ _ n _ => (intOf n).toNat)
  case atStart => exact ⟨0, Nat.zero_le _, by rw [HS0.out], by rw [Int.natCast_zero, Int.sub_zero], World.ownsRow_nil _ _ _ _, HT0.out, HB0.out, hZ.out⟩
  case round =>
    clear HB0 HT0 hZ
    obtain ⟨k, hk, rfl, rfl, hown, hit, hb, hgs⟩ := hrel
    have HOW := Lib.hid hown
    have HB := Lib.hid hb
    have HT := Lib.hid hit
    clear hown hb hit
    by_cases hlt : k < m
    · have HC := Lib.hid (HST.out k hlt)
      have HQ := Lib.hid (HPT.out k hlt)
      have HN := Lib.hid (HLS.out k)
      have hlk := HLL.out k
      obtain ⟨X, hX⟩ : ∃ X, X = foX t s k := ⟨_, rfl⟩
      obtain ⟨S, hS⟩ : ∃ S, S = foS t s k := ⟨_, rfl⟩
      obtain ⟨S', hS'⟩ : ∃ S', S' = foS t s (k + 1) := ⟨_, rfl⟩
      obtain ⟨LK, hLK⟩ : ∃ LK, LK = foL t s k := ⟨_, rfl⟩
      rw [← hX] at HN HC HQ
      rw [← hS] at HC HQ ⊢
      rw [← hS'] at HQ
      rw [← hLK] at HN HOW hlk
      have HS' := Lib.hid hS'
      obtain ⟨f, l, c⟩ := X
      have hpos : (0 : Int) < (m : Int) - (k : Int) := by omega
      have wmk : IntKind.i64.wrap ((m : Int) - (k : Int) - 1) = (m : Int) - (k : Int) - 1 := by rw [IntKind.wrap_i64]; omega
      clear hX hS hS' hLK HST HPT
      go_wp2_with (refine wpList_load_row rfl 42 (.tmp 6) rfl g rfl 42 _ (0, 0) _ HT.out Try.underlying42 rfl HIL.out ?_)
      refine (HC.out _).mono ?_
      rintro e w3 ⟨rfl, hb2⟩
      have HB2 := Lib.hid (fbelow_next HB.out hb2)
      have HO2 := Lib.hid (own_below HOW.out hb2)
      have HT2 := Lib.hid (Tx.iter_below HT.out hb2 hgs)
      have hb2s := HB2.out.size
      have hw3 := hb2.size
      have HAP := Lib.hid (own_old HOW.out hb2)
      clear hb2 HOW HB HT
      go_wp2_with (at_builtin; refine wpList_append_own _ rfl (.tmp 34) (.tmp 36) _ rfl (g + 1) 45 i0 _ 3 32 Try.underlying27 hi hz0 hz1 hz2 rfl (by decide) _ k (strkCells LK) rfl (World.ownsRow.alloc (World.ownsRow.alloc HO2.out _) _) ⟨w3.heap.size + 1, 0, none⟩ 1 1 [.int .i64 f, .int .i64 l, .string c] rfl rfl (World.news_of_block (cs := #[.int .i64 f, .int .i64 l, .string c]) (t := 45) (fr := (0, 0)) (heap_two2 w3 _ _)) (by simp [Value.oneCell']) (by unfold maxLen; omega) (by omega) (by simp; omega) ?_; intro v' w4 hown' hgrow _; have hbk := box_block hgrow HAP.out; obtain ⟨b0, b1, b2⟩ := block_cells hbk)
      have HR : Hid (w4.ownsRow (g + 1) 45 3 v' (k + 1) (strkCells (foL t s (k + 1)))) := Lib.hid (by
        rw [HN.out, ← strkCells_one LK ⟨f, l, c⟩ f l c rfl rfl rfl]
        exact hown')
      have HB3 : Hid (Below w.heap.size w w4) := Lib.hid (((HB2.out.alloc hb2s _).alloc (by simp; omega) _).grown hgrow (by simp; omega) fun x hx => by have := (World.ownsRow.lt HO2.out x hx).1; omega)
      have HT3 : Hid (w4.heap[g]? = some (.cells C 42 (0, 0))) := Lib.hid (Tx.iter_kept (Tx.iter_alloc (Tx.iter_alloc HT2.out _) _) hgrow (Tx.own_not HO2.out (Nat.lt_succ_self g)))
      have hz4 : g + 1 ≤ w4.heap.size := by
        have := (Array.getElem?_eq_some_iff.1 hbk).1
        omega
      clear hown' hgrow hbk HO2 HB2 HT2 HAP
      go_wp2_with fail
      refine (HQ.out _).mono ?_
      rintro e w5 ⟨rfl, hb5⟩
      have HB5 := Lib.hid (fbelow_next HB3.out hb5)
      have HR5 := Lib.hid (own_below HR.out hb5)
      have HT5 := Lib.hid (Tx.iter_below HT3.out hb5 hz4)
      have hz5 := hb5.size
      clear hb5 b0 b1 b2
      go_wp2
      go_roundw
      case rel => exact ⟨k + 1, by omega, by rw [HS'.out], by go_num, HR5.out, HT5.out, HB5.out, by omega⟩
      case measure => simp [intOf]; omega
    · obtain rfl : k = m := by omega
      have hz : ¬ (0 : Int) < (k : Int) - (k : Int) := by omega
      go_wp2
      go_ret2
      exact ⟨_, rfl, own_mono HOW.out (by omega), HB.out⟩
set_option maxHeartbeats 2000000 in
theorem implFirstOver_any (s t : ByteArray) (w : World) (hs : s.size ≤ maxLen) (ht : t.size ≤ maxLen) :
    Calls Try.prog 12 #[.string s, .string t] w fun e w' => ∃ v, e = .returned (.tuple #[v, .bool (okFi s t)]) ∧ w'.ownsRow w.heap.size 45 3 v (fiR s t).length (strkCells (fiR s t)) ∧ Below w.heap.size w w' := by
  have HC := Lib.hid (canLead_any s t w hs ht)
  cases h : okLead s t
  · have HN : okFi s t = false := by unfold okFi; rw [h]; rfl
    rw [HN, fiR_no HN]
    rw [h] at HC
    clear h HN
    go_enter Try.func12, Try.ntmps12
    go_wp2_with fail
    refine HC.out.mono ?_
    rintro e w1 ⟨rfl, rfl⟩
    go_wp2
    go_ret2
    exact ⟨_, rfl, World.ownsRow_nil _ _ _ _, Below.refl _ _⟩
  · by_cases h12 : t.size ≤ 12
    · have HN : okFi s t = true := by unfold okFi; rw [h, decide_eq_true h12]; rfl
      rw [HN, fiR_yes HN, foL_len]
      exact implFirstOver_yes s t w hs ht h h12
    · have HN : okFi s t = false := by unfold okFi; rw [decide_eq_false h12, Bool.and_false]
      have hd12 : decide ((12 : Int) < (t.size : Int)) = true := decide_eq_true (by omega)
      rw [h] at HC
      rw [HN, fiR_no HN]
      have hls : (12 : Int) < (t.size : Int) := by omega
      clear h HN h12 hd12
      go_enter Try.func12, Try.ntmps12
      go_wp2_with fail
      refine HC.out.mono ?_
      rintro e w1 ⟨rfl, rfl⟩
      go_wp2
      go_ret2
      exact ⟨_, rfl, World.ownsRow_nil _ _ _ _, Below.refl _ _⟩
end Go.Proofs.Ytohmodjigneldaa
