/- FirstOver of the model: 'spec.stFirst', 'spec.FirstOver', and the list that both sides return. No condition but the texts' lengths. -/
import Derived.Test.YtohmodjigneldaaFewNext
import Derived.Test.YtohmodjigneldaaMarkS
namespace Go.Proofs.Ytohmodjigneldaa
open Go.RowKit

open Classical in
/-- the first stroke that saves one -/
noncomputable def pickT (t s : ByteArray) : Nat × Nat × Nat :=
  if h : ∃ p : Nat × Nat × Nat, Pick (Tx.cB t) (Tx.cB s) t.size p.1 p.2.1 p.2.2 then Classical.choose h else (0, 0, 0)
theorem pickT_spec {t s : ByteArray} (h : ∃ F L K, Pick (Tx.cB t) (Tx.cB s) t.size F L K) : Pick (Tx.cB t) (Tx.cB s) t.size (pickT t s).1 (pickT t s).2.1 (pickT t s).2.2 := by
  obtain ⟨F, L, K, h⟩ := h
  have h' : ∃ p : Nat × Nat × Nat, Pick (Tx.cB t) (Tx.cB s) t.size p.1 p.2.1 p.2.2 := ⟨(F, L, K), h⟩
  unfold pickT
  rw [dif_pos h']
  exact Classical.choose_spec h'
/-- the fence behind so many strokes; the strokes -/
noncomputable def foS (t s : ByteArray) : Nat → ByteArray
  | 0 => s
  | k + 1 => paintS (foS t s k) (pickT t (foS t s k)).1 (pickT t (foS t s k)).2.1 ⟨#[letB (pickT t (foS t s k)).2.2]⟩
noncomputable def foX (t s : ByteArray) (k : Nat) : Strk := ⟨(pickT t (foS t s k)).1, (pickT t (foS t s k)).2.1, ⟨#[letB (pickT t (foS t s k)).2.2]⟩⟩
noncomputable def foL (t s : ByteArray) (k : Nat) : List Strk := (List.range k).map (foX t s)
theorem foL_len (t s : ByteArray) (k : Nat) : (foL t s k).length = k := by simp [foL]
theorem foL_succ (t s : ByteArray) (k : Nat) : foL t s (k + 1) = foL t s k ++ [foX t s k] := by simp [foL, List.range_succ]
theorem fo_at {t s : ByteArray} (ht : okFence t = true) (hst : s.size = t.size) (hl : Tx.leadsF (Tx.cB t) (Tx.cB s) t.size) {m : Nat} (hm : Tx.fpN (Tx.cB t) (Tx.cB s) t.size = m) : ∀ k, k ≤ m → (foS t s k).size = t.size ∧ Tx.leadsF (Tx.cB t) (Tx.cB (foS t s k)) t.size ∧ Tx.fpN (Tx.cB t) (Tx.cB (foS t s k)) t.size = m - k
  | 0, _ => ⟨hst, hl, hm⟩
  | k + 1, hk => by
    obtain ⟨h1, h2, h3⟩ := fo_at ht hst hl hm k (by omega)
    have hp := pickT_spec (pick_some (okF_len ht).2 h2 (tinted_of ht) (by omega))
    have q1 := hp.fl
    have q2 : (pickT t (foS t s k)).2.1 < (foS t s k).size := by rw [h1]; exact hp.ln
    refine ⟨?_, leads_paint q1 q2 hp.k5 h2 hp.nb, ?_⟩
    · show (paintS _ _ _ _).size = _
      rw [paintS_size1 q1 q2, h1]
    · show Tx.fpN _ (Tx.cB (paintS _ _ _ _)) _ = _
      rw [fpN_paint q1 q2 hp.k5]
      have := hp.hit
      omega
theorem fo_pick {t s : ByteArray} (ht : okFence t = true) (hst : s.size = t.size) (hl : Tx.leadsF (Tx.cB t) (Tx.cB s) t.size) {m : Nat} (hm : Tx.fpN (Tx.cB t) (Tx.cB s) t.size = m) (k : Nat) (hk : k < m) : Pick (Tx.cB t) (Tx.cB (foS t s k)) t.size (pickT t (foS t s k)).1 (pickT t (foS t s k)).2.1 (pickT t (foS t s k)).2.2 := by
  obtain ⟨h1, h2, h3⟩ := fo_at ht hst hl hm k (by omega)
  exact pickT_spec (pick_some (okF_len ht).2 h2 (tinted_of ht) (by omega))
/-- whether there is a list -/
def okFi (s t : ByteArray) : Bool := okLead s t && decide (t.size ≤ 12)
noncomputable def fiR (s t : ByteArray) : List Strk := if okFi s t = true then foL t s (Tx.fpN (Tx.cB t) (Tx.cB s) t.size) else []
theorem fiR_len (s t : ByteArray) : (fiR s t).length ≤ 20 := by
  unfold fiR
  split
  · rw [foL_len]; exact Tx.fp_20 _ _ _ _
  · exact Nat.zero_le _
theorem strkCells_snoc (L : List Strk) (x : Strk) : strkCells (L ++ [x]) = strkCells L ++ x.vals := by unfold strkCells; rw [List.flatMap_append]; simp
theorem strkCells_one (L : List Strk) (x : Strk) (a b : Int) (c : ByteArray) (h1 : x.f = a) (h2 : x.t = b) (h : x.c = c) : strkCells L ++ [.int .i64 a, .int .i64 b, .string c] = strkCells (L ++ [x]) := by
  rw [strkCells_snoc, ← h, ← h1, ← h2]; rfl

theorem heap_two2 (w : World) (a b : Obj) : ((w.alloc a).alloc b).heap[w.heap.size + 1]? = some b := by
  have := heap_alloc_new (w.alloc a) b
  rwa [show (w.alloc a).heap.size = w.heap.size + 1 by simp] at this
theorem lead_leads {s t : ByteArray} (hs : okFence s = true) (ht : okFence t = true) (hst : s.size = t.size) : (okLead s t = true → Tx.leadsF (Tx.cB t) (Tx.cB s) t.size) ∧ Tx.ovr (Tx.cB t) (Tx.cB s) t.size = if okLead s t = true then (Tx.fpN (Tx.cB t) (Tx.cB s) t.size : Int) else -1 := by
  refine ⟨fun h => (okLead_parts h).2.2.2, ?_⟩
  have e : okLead s t = (List.range t.size).all fun i => decide (Tx.cB t i = 46 → Tx.cB s i = 46) := by
    unfold okLead; rw [hs, ht, decide_eq_true hst]; rfl
  unfold Tx.ovr
  rw [e]
  rfl

set_option maxRecDepth 100000 in
set_option maxHeartbeats 4000000 in
theorem stFirst_no (s t : ByteArray) (w : World) (hs : okFence s = true) (ht : okFence t = true) (hst : s.size = t.size) (h : okLead s t = false) :
    Calls Try.prog 30 #[.string s, .string t] w fun e w' => ∃ v, e = .returned (.tuple #[v, .bool false]) ∧ w'.ownsRow w.heap.size 45 3 v 0 (strkCells []) ∧ Below w.heap.size w w' := by
  have HO := Lib.hid (Tx.stOver_any s t w (okF_len ht).1 (okF_len ht).2 hst (okF_128 ht))
  have e := (lead_leads hs ht hst).2
  rw [h, if_neg (by decide)] at e
  rw [e] at HO
  clear e h hs ht hst
  go_enter Try.func30, Try.ntmps30
  go_wp2_with fail
  refine HO.out.mono ?_
  rintro e w1 ⟨rfl, hb⟩
  go_wp2
  go_ret2
  exact ⟨_, rfl, World.ownsRow_nil _ _ _ _, hb⟩

set_option maxRecDepth 100000 in
set_option maxHeartbeats 4000000 in
theorem stFirst_yes (s t : ByteArray) (w : World) (h : okLead s t = true) :
    Calls Try.prog 30 #[.string s, .string t] w fun e w' => ∃ v, e = .returned (.tuple #[v, .bool true]) ∧ w'.ownsRow w.heap.size 45 3 v (Tx.fpN (Tx.cB t) (Tx.cB s) t.size) (strkCells (foL t s (Tx.fpN (Tx.cB t) (Tx.cB s) t.size))) ∧ Below w.heap.size w w' := by
  obtain ⟨i0, hi, hz0, hz1, hz2⟩ := info_parts info_strk
  obtain ⟨hs, ht, hst, hl⟩ := okLead_parts h
  have HO := Lib.hid (Tx.stOver_any s t w (okF_len ht).1 (okF_len ht).2 hst (okF_128 ht))
  have e := (lead_leads hs ht hst).2
  rw [if_pos h] at e
  rw [e] at HO
  have hm20 : Tx.fpN (Tx.cB t) (Tx.cB s) t.size ≤ 20 := Tx.fp_20 _ _ _ _
  obtain ⟨m, hm⟩ : ∃ m, m = Tx.fpN (Tx.cB t) (Tx.cB s) t.size := ⟨_, rfl⟩
  have HST : Hid (∀ k, k < m → ∀ W, Calls Try.prog 42 #[.string (foS t s k), .string t, .int .i64 ((m : Int) - (k : Int))] W fun e w' => e = .returned (.tuple #[.agg #[.int .i64 (foX t s k).f, .int .i64 (foX t s k).t, .string (foX t s k).c], .string (foS t s (k + 1))]) ∧ Below W.heap.size W w') := Lib.hid fun k hk W => by
    obtain ⟨q1, q2, q3⟩ := fo_at ht hst hl hm.symm k (by omega)
    have := stStep_any (foS t s k) t _ _ _ W (okF_len ht).1 (okF_len ht).2 q1 (okF_128 ht) q2 (fo_pick ht hst hl hm.symm k hk)
    rw [q3, show ((m - k : Nat) : Int) = (m : Int) - (k : Int) by omega] at this
    exact this
  rw [← hm] at hm20 HO ⊢
  have HLS := Lib.hid fun k => foL_succ t s k
  have HS0 : Hid (foS t s 0 = s) := Lib.hid rfl
  have HLL := Lib.hid fun k => foL_len t s k
  clear e h hs ht hst hl hm
  go_enter Try.func30, Try.ntmps30
  go_wp2_with fail
  refine HO.out.mono ?_
  rintro e w1 ⟨rfl, hb⟩
  have HB1 := Lib.hid hb
  clear hb HO
  have hm0 : ¬ (m : Int) < 0 := by omega
  go_wp2
  go_loopw [0, 6, 7] (fun u n v wr => ∃ k : Nat, k ≤ m ∧ u = .string (foS t s k) ∧ n = .int .i64 ((m : Int) - (k : Int)) ∧ wr.ownsRow w.heap.size 45 3 v k (strkCells (foL t s k)) ∧ Below w.heap.size w wr) (fun _ n _ _ => (intOf n).toNat)
  case atStart => exact ⟨0, Nat.zero_le _, by rw [HS0.out], by rw [Int.natCast_zero, Int.sub_zero], World.ownsRow_nil _ _ _ _, HB1.out⟩
  case round =>
    clear HB1
    obtain ⟨k, hk, rfl, rfl, hown, hb⟩ := hrel
    have HOW := Lib.hid hown
    have HB := Lib.hid hb
    clear hown hb
    by_cases hlt : k < m
    · have HC := Lib.hid (HST.out k hlt)
      have HN := Lib.hid (HLS.out k)
      have hbs := HB.out.size
      have hlk := HLL.out k
      obtain ⟨X, hX⟩ : ∃ X, X = foX t s k := ⟨_, rfl⟩
      obtain ⟨S, hS⟩ : ∃ S, S = foS t s k := ⟨_, rfl⟩
      obtain ⟨S', hS'⟩ : ∃ S', S' = foS t s (k + 1) := ⟨_, rfl⟩
      obtain ⟨LK, hLK⟩ : ∃ LK, LK = foL t s k := ⟨_, rfl⟩
      rw [← hX] at HN HC
      rw [← hS] at HC ⊢
      rw [← hS'] at HC
      rw [← hLK] at HN HOW hlk
      have HS' := Lib.hid hS'
      obtain ⟨f, l, c⟩ := X
      have hpos : (0 : Int) < (m : Int) - (k : Int) := by omega
      have wmk : IntKind.i64.wrap ((m : Int) - (k : Int) - 1) = (m : Int) - (k : Int) - 1 := by rw [IntKind.wrap_i64]; omega
      clear hX hS hS' hLK HST
      go_wp2_with fail
      refine (HC.out _).mono ?_
      rintro e w2 ⟨rfl, hb2⟩
      have HB2 := Lib.hid (fbelow_nextN HB.out hbs hb2)
      have HO2 := Lib.hid (own_below HOW.out hb2)
      have hb2s := HB2.out.size
      clear hb2 HOW HB
      go_wp2_with (at_builtin; refine wpList_append_own _ rfl (.tmp 24) (.tmp 26) _ rfl w.heap.size 45 i0 _ 3 32 Try.underlying27 hi hz0 hz1 hz2 rfl (by decide) _ k (strkCells LK) rfl (World.ownsRow.alloc (World.ownsRow.alloc HO2.out _) _) ⟨w2.heap.size + 1, 0, none⟩ 1 1 [.int .i64 f, .int .i64 l, .string c] rfl rfl (World.news_of_block (cs := #[.int .i64 f, .int .i64 l, .string c]) (t := 45) (fr := (0, 0)) (heap_two2 w2 _ _)) (by simp [Value.oneCell']) (by unfold maxLen; omega) (by omega) (by simp; omega) ?_; intro v' w3 hown' hgrow _)
      have HR : Hid (w3.ownsRow w.heap.size 45 3 v' (k + 1) (strkCells (foL t s (k + 1)))) := Lib.hid (by
        rw [HN.out, ← strkCells_one LK ⟨f, l, c⟩ f l c rfl rfl rfl]
        exact hown')
      have HB3 : Hid (Below w.heap.size w w3) := Lib.hid (((HB2.out.alloc hb2s _).alloc (by simp; omega) _).grown hgrow (by simp; omega) fun x hx => (World.ownsRow.lt HO2.out x hx).1)
      clear hown' hgrow
      go_wp2
      go_roundw
      case rel => exact ⟨k + 1, by omega, by rw [HS'.out], by go_num, HR.out, HB3.out⟩
      case measure => simp [intOf]; omega
    · obtain rfl : k = m := by omega
      have hz : ¬ (0 : Int) < (k : Int) - (k : Int) := by omega
      go_wp2
      go_ret2
      exact ⟨_, rfl, HOW.out, HB.out⟩
end Go.Proofs.Ytohmodjigneldaa
