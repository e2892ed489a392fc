/- NeedlessStrokes: the model's function. No condition but the lists' and the texts' lengths. -/
import Derived.Test.YtcgkjhomjdgmhaaNeedMath
import Derived.Deep.RegionHeld3
namespace Go.Proofs.Ytcgkjhomjdgmhaa
open Go.RowKit

/-- an append to a row of the call's own, as a step of a region that draws its order -/
theorem step_append_own {P : Program} {w : World} {ops : Array Oper} {o : Oper} {a : Act} {K : Act → World → Prop} {Q : Exit → Act → World → Prop} {E : Prop} (hgd : o.guard = none) (s x : Operand) (t : TypeId)
    (ho : o.op = .call { callee := .builtin .append, args := #[s, x], argTypes := #[t, t] })
    (base : Nat) (e : TypeId) (i : TypeInfo) (z : Value) (size bytes : Nat) (ht : P.underlying t = some (.slice e)) (hi : P.info? e = some i) (hz : i.zero = some z)
    (hsize : i.size = size) (hby : i.bytes = bytes) (hzs : z.cells.size = size) (hsz : 0 < size)
    (v : Value) (n : Nat) (xs : List Value) (hs : a.eval s = v) (hown : w.ownsRow base e size v n xs)
    (ad : Addr) (m c : Nat) (news : List Value) (hx : a.eval x = .slice (some ad) m c) (hl : news.length = m * size) (hnews : ∀ j u, news[j]? = some u → w.cell? (ad.add j) = some u) (h1 : ∀ u ∈ news, u.oneCell' = true)
    (h63 : n + m ≤ maxLen) (hbytes : (n + m) * bytes ≤ 140737488355328) (hbase : base ≤ w.heap.size) (N : Nat) (hN : n + m = N) (ys : List Value) (hY : xs ++ news = ys)
    (h : ∀ A' c' w', w'.ownsRow base e size (.slice A' N c') N ys → w.grownBy w' v.ownBlock → K (a.put o.dst (.slice A' N c')) w') :
    if Region.wanted o (yielded ops a.tmps) = true then Oper.wp P o a w K Q else E := by
  have hw : Region.wanted o (yielded ops a.tmps) = true := by simp [Region.wanted, hgd]
  rw [if_pos hw]
  refine wp_append_own w s x t ho base e i z size bytes ht hi hz hsize hby hzs hsz v n xs hs hown ad m c news hx hl hnews h1 h63 hbytes hbase fun v' w' h2 h3 _ => ?_
  obtain ⟨A', c', rfl⟩ := own_any h2
  rw [hY, hN] at h2
  rw [hN]
  exact h A' c' w' h2 h3

theorem wrap_small {n : Int} (h : 0 ≤ n ∧ n ≤ 1048576) : IntKind.i64.wrap n = n := by rw [IntKind.wrap_i64]; omega
theorem below_app {w w1 w2 : World} {n size : Nat} {e : TypeId} {v : Value} {xs : List Value} (h : Below w.heap.size w w1) (ho : w1.ownsRow w.heap.size e size v n xs) (hg : w1.grownBy w2 v.ownBlock) : Below w.heap.size w w2 :=
  h.grown hg h.size fun k hk => (World.ownsRow.lt ho k hk).1

set_option maxRecDepth 20000 in
set_option maxHeartbeats 1000000 in
theorem specNeedless_yes (s : ByteArray) (A : Option Addr) (cap : Nat) (L : List Strk) (w : World) (hz : s.size ≤ maxLen) (hl : L.length ≤ maxLen) (hs : Short L) (h : StrkSl w A L) (hcap : L.length ≤ cap) (hok : (okFence s && okList s.size L) = true) :
    Calls Try.prog 72 #[.string s, .slice A L.length cap] w fun e w' => ∃ v, e = .returned (.tuple #[v, .bool true]) ∧ OwnInts w' w.heap.size 3 v (needJ s L L.length) ∧ Below w.heap.size w w' := by
  obtain ⟨i0, hi, hz0, hz1, hz2⟩ := info_parts info_int
  obtain ⟨i1, hi1, hy0, hy1, hy2⟩ := info_parts info_strk
  have hP := stList_any s A cap L w hz hl hs h
  rw [hok] at hP
  have HP := Lib.hid hP
  have hof := hok
  rw [Bool.and_eq_true] at hof
  obtain ⟨_, h20⟩ := okFence_size hof.1
  obtain ⟨h40, hat⟩ := okList_at hof.2
  have HSL := Lib.hid h
  have HOK := Lib.hid hat
  have HA := Lib.hid fun W hW => stAll_any s A cap L W h20 h40 hat hW
  clear hP hof hat hok h hs
  go_enter Try.func72, Try.ntmps72
  go_wp2_with (first
    | (go_at_call 107; refine HP.out.mono ?_; rintro e w1 ⟨rfl, hb0⟩; have HSL1 := Lib.hid (HSL.out.below hb0))
    | (go_at_call 108; refine (HA.out _ HSL1.out).mono ?_; rintro e w2 ⟨rfl, hb1⟩; have HB1 := Lib.hid (below_next hb0 hb1); clear hb0 hb1))
  go_loopw [6, 19] (fun v i wr => ∃ j : Nat, j ≤ L.length ∧ i = .int .i64 j ∧ OwnInts wr w.heap.size 3 v (needJ s L j) ∧ Below w.heap.size w wr) (fun _ i _ => L.length - (intOf i).toNat)
  case atStart => exact ⟨0, Nat.zero_le _, rfl, OwnInts.nil _ _ _, HB1.out⟩
  case round =>
    obtain ⟨j, hj, rfl, hown, hb⟩ := hrel
    have HO := Lib.hid hown
    clear hown
    by_cases hlt : j < L.length
    · obtain ⟨g, off, hA, hg, hat⟩ := HSL.out.some (by omega)
      subst hA
      have hSL := Lib.hid (HSL.out.below hb)
      have hbs := hb.size
      have HAT := Lib.hid hat
      have HCE : Hid (∀ W, Below wr.heap.size wr W → StrkAt W g off L) := Lib.hid fun W hW => hat.below (hb.trans (hW.mono hbs)) hg
      clear hat
      obtain ⟨M, hM⟩ : ∃ M, M = (dropX L j).length := ⟨_, rfl⟩
      have hM2 : j + (L.length - (j + 1)) = M := by rw [hM, dropX_len hlt]
      have HX : Hid ((dropX L j).length = M ∧ strkCells (L.take j) ++ strkCells (L.drop (j + 1)) = strkCells (dropX L j)) := Lib.hid ⟨hM.symm, (strkCells_app _ _).symm⟩
      have HST : Hid (∀ W B A c, World.ownsRow W B 43 3 (.slice A M c) M (strkCells (dropX L j)) → Calls Try.prog 108 #[.string s, .slice A M c] W fun e w' => e = .returned (.string (paintX s L j L.length)) ∧ Below W.heap.size W w') := Lib.hid fun W B A c ho => by
        rw [hM] at ho ⊢
        rw [paintX_drop s L j hlt]
        exact stAll_any s A c (dropX L j) W h20 (by rw [dropX_len hlt]; omega) (dropX_ok j HOK.out) (StrkSl.of_own ho)
      clear hM
      obtain ⟨ad3, h3, hd3⟩ := slice_to g off L.length cap j hj hcap
      obtain ⟨ad8, h8, hd8⟩ := slice_from g off L.length cap (j + 1) hlt hcap
      rw [show ((j + 1 : Nat) : Int) = (j : Int) + 1 by omega] at h8
      have HC3 : Hid (∀ W, Below wr.heap.size wr W → ∀ i u, (strkCells (L.take j))[i]? = some u → W.cell? (ad3.add i) = some u) := Lib.hid fun W hW => by rw [hd3]; exact cells_take (HCE.out W hW) j
      have HC8 : Hid (∀ W, Below wr.heap.size wr W → ∀ i u, (strkCells (L.drop (j + 1)))[i]? = some u → W.cell? (ad8.add i) = some u) := Lib.hid fun W hW i u hu => by
        rcases Nat.lt_or_ge (j + 1) L.length with l | l
        · have e : ad8 = ⟨g, off + (j + 1) * 3, none⟩ := by rw [hd8 l]; unfold Addr.add; rw [if_neg (by omega)]
          rw [e]; exact cells_drop (HCE.out W hW) (j + 1) hlt i u hu
        · rw [List.drop_eq_nil_of_le l] at hu
          cases hu
      have HL3 : Hid ((strkCells (L.take j)).length = j * 3) := Lib.hid (by rw [strkCells_len, List.length_take, Nat.min_eq_left hj])
      have HL8 : Hid ((strkCells (L.drop (j + 1))).length = (L.length - (j + 1)) * 3) := Lib.hid (by rw [strkCells_len, List.length_drop])
      have HE0 : Hid ((wr.alloc (.cells #[] 43)).ownsRow wr.heap.size 43 3 (.slice (some ⟨wr.heap.size, 0, none⟩) 0 0) 0 []) := Lib.hid ⟨rfl, .inr ⟨wr.heap.size, 0, #[], rfl, Nat.le_refl _, heap_alloc_new _ _, Nat.le_refl _, Nat.zero_le _, rfl, rfl⟩⟩
      have HB0 : Hid (Below wr.heap.size wr (wr.alloc (.cells #[] 43))) := Lib.hid (below_new wr _)
      have hwr : IntKind.i64.wrap ((j : Int) + 1) = (j : Int) + 1 := wrap_small (by omega)
      clear hd3 hd8
      go_wp2
      go_region_held3 (fun _ => True) (trivial) (first
        | (refine step_append_own (by rfl) (.tmp 26) (.tmp 30) _ (by rfl) wr.heap.size 43 i1 _ 3 32 Try.underlying26 hi1 hy0 hy1 hy2 (by rfl) (by decide) (.slice A5 j c5) j (strkCells (L.take j)) (by rfl) HO5.out ad8 (L.length - (j + 1)) (cap - (j + 1)) (strkCells (L.drop (j + 1))) (by rfl) HL8.out (HC8.out _ HB5.out) (one_cells _) (by unfold maxLen; omega) (by omega) HB5.out.size M hM2 (strkCells (dropX L j)) HX.out.2 ?_; intro A6 c6 w6 hown6 hgrow6; have HO6 := Lib.hid hown6; have HB6 := Lib.hid (below_app HB5.out HO5.out hgrow6); clear hown6 hgrow6)
        | (refine step_append_own (by rfl) (.tmp 22) (.tmp 25) _ (by rfl) wr.heap.size 43 i1 _ 3 32 Try.underlying26 hi1 hy0 hy1 hy2 (by rfl) (by decide) (.slice (some ⟨wr.heap.size, 0, none⟩) 0 0) 0 [] (by rfl) (World.ownsRow.drew HE0.out) ad3 j cap (strkCells (L.take j)) (by rfl) HL3.out (HC3.out _ HB0.out.drew) (one_cells _) (by unfold maxLen; omega) (by omega) HB0.out.drew.size j (Nat.zero_add j) (strkCells (L.take j)) (List.nil_append _) ?_; intro A5 c5 w5 hown5 hgrow5; have HO5 := Lib.hid hown5; have HB5 := Lib.hid (below_app HB0.out.drew (World.ownsRow.drew HE0.out) hgrow5); clear hown5 hgrow5))
      have hlen := needJ_len s L j
      have hw6 := HB6.out.size
      have hb6 := hb.trans (HB6.out.mono hbs)
      cases hn : needB s L j
      · have HN := Lib.hid (needJ_no hn)
        have hq : ((paintX s L j L.length).toList == (paintJ s L L.length).toList) = false := hn
        clear hn
        go_wp2_with (go_at_call 108; refine (HST.out _ _ _ _ HO6.out).mono ?_; rintro e w7 ⟨rfl, hb7⟩)
        go_roundw
        case rel => exact ⟨j + 1, by omega, by go_num, by rw [HN.out]; exact OwnInts.below (OwnInts.below HO.out (HB6.out.mono (Nat.le_refl _))) hb7, below_next hb6 hb7⟩
        case measure => simp [intOf]; omega
      · have HN := Lib.hid (needJ_yes hn)
        have hq : ((paintX s L j L.length).toList == (paintJ s L L.length).toList) = true := hn
        clear hn
        go_wp2_with (first
          | (go_at_call 108; refine (HST.out _ _ _ _ HO6.out).mono ?_; rintro e w7 ⟨rfl, hb7⟩; have HO7 := Lib.hid (OwnInts.below (OwnInts.below HO.out HB6.out) hb7); have hb8 := Lib.hid (below_next hb6 hb7); have hs8 := hb8.out.size)
          | (at_builtin; refine wpList_append_own _ rfl (.tmp 37) (.tmp 39) _ rfl w.heap.size 3 i0 _ 1 8 Try.underlying31 hi hz0 hz1 hz2 rfl (by decide) _ (needJ s L j).length ((needJ s L j).map (Value.int .i64)) rfl (World.ownsRow.alloc HO7.out _) ⟨w7.heap.size, 0, none⟩ 1 1 [.int .i64 (j : Int)] rfl rfl (World.news_of_block (cs := #[.int .i64 (j : Int)]) (t := 3) (fr := (0, 0)) (heap_alloc_new w7 _)) (by simp [Value.oneCell']) (by unfold maxLen; omega) (by omega) (by simp; omega) ?_; intro v' w9 hown' hgrow _))
        have HR : Hid (OwnInts w9 w.heap.size 3 v' (needJ s L (j + 1))) := Lib.hid (by rw [HN.out]; exact OwnInts.snoc hown')
        have HB9 : Hid (Below w.heap.size w w9) := Lib.hid ((hb8.out.alloc hs8 _).grown hgrow (by simp; omega) fun k hk => (World.ownsRow.lt HO7.out k hk).1)
        clear hown' hgrow
        go_roundw
        case rel => exact ⟨j + 1, by omega, by go_num, HR.out, HB9.out⟩
        case measure => simp [intOf]; omega
    · obtain rfl : j = L.length := by omega
      go_wp2
      go_ret2
      exact ⟨_, rfl, HO.out, hb⟩
end Go.Proofs.Ytcgkjhomjdgmhaa
