/- Patches that cover a yard: the program: 'impl.stretchesOf', 'impl.isMended', 'impl.AreCovering'. No condition but the lengths. -/
import Derived.Test.YtfickmbfbmbjcaaCover2
namespace Go.Proofs.Ytfickmbfbmbjcaa
open Go.RowKit

theorem ptOf_two (a b : Nat) : ptOf [(a : Int), (b : Int)] = (a, b) := rfl
theorem map_takeS {LL : List (List Int)} {j : Nat} (h : j < LL.length) : (LL.take (j + 1)).map ptOf = (LL.take j).map ptOf ++ [ptOf LL[j]] := by
  rw [List.take_succ_eq_append_getElem h, List.map_append]; rfl

set_option maxRecDepth 20000 in
set_option maxHeartbeats 4000000 in
theorem stretchesOf_any (s : ByteArray) (A : Option Addr) (c : Nat) (LL : List (List Int)) (w : World) (hs : s.size ≤ 30) (hl : LL.length ≤ 1000) (hm : ∀ L ∈ LL, L.length ≤ 1048576) (h : IntSS w A LL) :
    Calls Try.prog 96 #[.string s, .slice A LL.length c] w fun e w' => ∃ v, e = .returned (.tuple #[v, .bool (LL.all (okPt s.size))]) ∧ (LL.all (okPt s.size) = true → OwnP w' w.heap.size v (LL.map ptOf)) ∧ (∃ A' n' c', v = .slice A' n' c') ∧ Below w.heap.size w w' := by
  obtain ⟨i0, hi, hz0, hz1, hz2⟩ := info_parts info_st
  have HSS := Lib.hid h
  have HM := Lib.hid hm
  have hs63 : s.size ≤ maxLen := by unfold maxLen; omega
  clear h hm
  go_enter Try.func96, Try.ntmps96
  go_wp2
  go_loopw [6, 12] (fun v i wr => ∃ j : Nat, j ≤ LL.length ∧ i = .int .i64 j ∧ (LL.take j).all (okPt s.size) = true ∧ OwnP wr w.heap.size v ((LL.take j).map ptOf) ∧ Below w.heap.size w wr) (fun _ i _ => LL.length - (intOf i).toNat)
  case atStart => exact ⟨0, Nat.zero_le _, rfl, by simp, OwnP.nil _ _, Below.refl _ _⟩
  case round =>
    obtain ⟨j, hj, rfl, hall, hown, hb⟩ := hrel
    have HALL := Lib.hid hall
    have HO := Lib.hid hown
    have HB := Lib.hid hb
    have hbs := hb.size
    clear hall
    by_cases hlt : j < LL.length
    · obtain ⟨g, off, rfl, hg, hat⟩ := (HSS.out.below hb).some (by omega)
      obtain ⟨B2, c2, k1, hsl⟩ := hat j hlt
      have HT := Lib.hid (all_takeS hlt (okPt s.size))
      have HNO := Lib.hid fun h => all_noS (f := okPt s.size) hlt h
      have HMP := Lib.hid (map_takeS hlt)
      have hLm := HM.out LL[j] (List.getElem_mem _)
      have hPl : ((LL.take j).map ptOf).length = j := by rw [List.length_map, List.length_take]; omega
      obtain ⟨L, hL⟩ : ∃ L, L = LL[j] := ⟨_, rfl⟩
      rw [← hL] at k1 hsl HT HNO hLm HMP
      clear hL hat hb hown
      by_cases h2 : L.length = 2
      · obtain ⟨a, b, rfl⟩ := two_of_len h2
        obtain ⟨g2, off2, rfl, hg2, hat2⟩ := hsl.some (by show 0 < 2; omega)
        have d0 : wr.cell? ⟨g2, off2, none⟩ = some (.int .i64 a) := hat2 0 (by show 0 < 2; omega)
        have d1 : wr.cell? ⟨g2, off2 + 1, none⟩ = some (.int .i64 b) := hat2 1 (by show 1 < 2; omega)
        have k1' : wr.cell? ⟨g, off + j, none⟩ = some (.slice (some ⟨g2, off2, none⟩) 2 c2) := k1
        have HI := Lib.hid fun W => stIsIn_any a b s W hs63
        clear k1 hsl hat2 h2 hLm
        have HC := Lib.hid (cells2 wr a b 65)
        have HW0 := Lib.hid (below_new wr (.cells #[.int .i64 a, .int .i64 b] 65)).drew
        have HK : Hid (∀ W, Below (wr.alloc (.cells #[.int .i64 a, .int .i64 b] 65)).drew.heap.size (wr.alloc (.cells #[.int .i64 a, .int .i64 b] 65)).drew W → (W.cell? ⟨wr.heap.size, 0, none⟩ = some (.int .i64 a) ∧ W.cell? ⟨wr.heap.size, 1, none⟩ = some (.int .i64 b)) ∧ Below wr.heap.size wr W ∧ wr.heap.size < W.heap.size) := Lib.hid fun W h => by
          have hsz : (wr.alloc (.cells #[.int .i64 a, .int .i64 b] 65)).drew.heap.size = wr.heap.size + 1 := by simp [World.drew]
          have h3 := h.size
          rw [hsz] at h3
          refine ⟨⟨?_, ?_⟩, below_nextN HW0.out HW0.out.size h, by omega⟩
          · rw [(bcell h).1 wr.heap.size 0 (by rw [hsz]; omega)]; exact HC.out.1
          · rw [(bcell h).1 wr.heap.size 1 (by rw [hsz]; omega)]; exact HC.out.2
        go_wp2
        go_region
        obtain ⟨wa, hwa⟩ : ∃ wa, wa = (wr.alloc (.cells #[.int .i64 a, .int .i64 b] 65)).drew := ⟨_, rfl⟩
        rw [← hwa] at HK
        simp only [← hwa]
        have hk0 := HK.out wa (Below.refl _ _)
        obtain ⟨⟨z0, z1⟩, -, -⟩ := hk0
        clear hwa HC HW0 d0 d1 k1'
        by_cases hok : 0 ≤ a ∧ a ≤ b ∧ b < (s.size : Int)
        · rw [decide_eq_true hok] at HI
          obtain ⟨x, rfl⟩ : ∃ x : Nat, a = x := ⟨a.toNat, by omega⟩
          obtain ⟨y, rfl⟩ : ∃ y : Nat, b = y := ⟨b.toNat, by omega⟩
          have HN : Hid ((LL.take (j + 1)).all (okPt s.size) = true) := Lib.hid (by rw [HT.out, HALL.out]; exact decide_eq_true hok)
          rw [ptOf_two] at HMP
          clear HNO HT hok
          go_wp2_with fail
          refine (HI.out _).mono ?_
          rintro e w2 ⟨rfl, hb2⟩
          obtain ⟨⟨y0, y1⟩, hB2, hlt2⟩ := HK.out _ hb2
          have HB2 := Lib.hid (below_nextN HB.out hbs hB2)
          have hbs2 := HB2.out.size
          have HO2 : Hid (OwnP w2 w.heap.size u6 ((LL.take j).map ptOf)) := Lib.hid (own_below HO.out hB2)
          obtain ⟨P, hP⟩ : ∃ P, P = (LL.take j).map ptOf := ⟨_, rfl⟩
          rw [← hP] at HO2 hPl HMP
          clear hb2 hB2 HK hP
          go_wp2_with (at_builtin; refine wpList_append_own _ rfl (.tmp 30) (.tmp 32) _ rfl w.heap.size 65 i0 _ 2 16 Try.underlying69 hi hz0 hz1 hz2 rfl (by decide) _ P.length (pairC P) rfl (World.ownsRow.alloc HO2.out _) ⟨_, 0, none⟩ 1 1 [.int .i64 (x : Int), .int .i64 (y : Int)] rfl rfl (World.news_of_block (cs := #[.int .i64 (x : Int), .int .i64 (y : Int)]) (t := 65) (fr := (0, 0)) (heap_alloc_new _ _)) (by simp [Value.oneCell']) (by unfold maxLen; omega) (by omega) (by simp; omega) ?_; intro v' w3 hown' hgrow _)
          have HR : Hid (OwnP w3 w.heap.size v' ((LL.take (j + 1)).map ptOf)) := Lib.hid (by rw [HMP.out]; exact OwnP.snoc hown')
          have HB3 : Hid (Below w.heap.size w w3) := Lib.hid ((HB2.out.alloc hbs2 _).grown hgrow (by simp; omega) fun k hk => (World.ownsRow.lt HO2.out k hk).1)
          clear hown' hgrow
          go_wp2
          go_roundw
          case rel => exact ⟨j + 1, by omega, by go_num, HN.out, HR.out, HB3.out⟩
          case measure => simp [intOf]; omega
        · rw [decide_eq_false hok] at HI
          have HN := Lib.hid (HNO.out (decide_eq_false hok))
          clear HNO HT hok
          go_wp2_with fail
          refine (HI.out _).mono ?_
          rintro e w2 ⟨rfl, hb2⟩
          obtain ⟨-, hB2, -⟩ := HK.out _ hb2
          have HB2 := Lib.hid (below_nextN HB.out hbs hB2)
          clear hb2 hB2
          go_wp2
          go_ret2
          exact ⟨.slice none 0 0, by rw [HN.out]; rfl, (fun h => by rw [HN.out] at h; cases h), ⟨_, _, _, rfl⟩, HB2.out⟩
      · have HN := Lib.hid (HNO.out (okPt_len h2))
        have hd : ((L.length : Int) != 2) = true := by rw [bne_iff_ne]; omega
        clear HNO hsl
        go_wp2
        go_ret2
        exact ⟨.slice none 0 0, by rw [HN.out]; rfl, (fun h => by rw [HN.out] at h; cases h), ⟨_, _, _, rfl⟩, HB.out⟩
    · obtain rfl : j = LL.length := by omega
      rw [List.take_length] at HALL hown
      obtain ⟨A', c', rfl⟩ := own_any hown
      have HO' := Lib.hid hown
      clear hown HO
      go_wp2
      go_ret2
      exact ⟨.slice A' _ c', by rw [HALL.out]; rfl, fun _ => HO'.out, ⟨_, _, _, rfl⟩, HB.out⟩
end Go.Proofs.Ytfickmbfbmbjcaa
