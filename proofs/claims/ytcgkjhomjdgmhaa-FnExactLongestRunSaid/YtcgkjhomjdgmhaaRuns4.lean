/- RunsOf: the function of the program. No condition but the text's length. -/
import Derived.Test.YtcgkjhomjdgmhaaRuns3
import Derived.Test.YtcgkjhomjdgmhaaColours
import Derived.Test.YtcgkjhomjdgmhaaMarkS
namespace Go.Proofs.Ytcgkjhomjdgmhaa
open Go.RowKit Go.Maps

theorem zero_int (w : World) : (zeroValue 3).run Try.prog w = .ok (.int .i64 0) w := by kernel_rfl
theorem own_mono {w : World} {base b' n size : Nat} {e : TypeId} {v : Value} {xs : List Value} (h : w.ownsRow base e size v n xs) (hb : b' ≤ base) : w.ownsRow b' e size v n xs := by
  refine ⟨h.1, ?_⟩
  rcases h.2 with hn | ⟨g, cap, cur, rfl, h1, rest⟩
  · exact .inl hn
  · exact .inr ⟨g, cap, cur, rfl, Nat.le_trans hb h1, rest⟩
theorem own_block {w : World} {b n size : Nat} {e : TypeId} {v : Value} {xs : List Value} (h : w.ownsRow (b + 1) e size v n xs) : some b ≠ v.ownBlock := by
  rcases h.2 with ⟨rfl, _⟩ | ⟨g, cap, cur, rfl, h1, rest⟩
  · intro e; cases e
  · intro e; injection e with e; have e2 : b = g := e; omega
theorem map_below {w w' : World} {b n : Nat} {D : DataW Unit} (h : MapAt w b n D) (hb : Below w.heap.size w w') : MapAt w' b n D := World.ownsMap.kept h (grown_of_below hb none) (by simp)
theorem toList_one (c : UInt8) : (⟨#[c]⟩ : ByteArray).toList = [c] := by simp
theorem same_lit {d : DataW Unit} {c e : Int} (h1 : d = .lit (.int .i64 c)) (h2 : d = .lit (.int .i64 e)) : c = e := by rw [h1] at h2; injection h2 with h2; injection h2
theorem nbR_bare {s : ByteArray} {x m : Nat} (h : x < s.size) (hc : s[x] = 46) : nbR (mkR s m x) = false := by
  unfold nbR mkR
  simp only [extract_one h, hc, toList_one]
  rfl
theorem nbR_col {s : ByteArray} {x m : Nat} (h : x < s.size) (hc : s[x] ≠ 46) : nbR (mkR s m x) = true := by
  unfold nbR mkR
  simp only [extract_one h, toList_one]
  simp [hc]
theorem strkCells_one (L : List Strk) (x : Strk) (c : ByteArray) (h : x.c = c) : strkCells L ++ [.int .i64 x.f, .int .i64 x.t, .string c] = strkCells (L ++ [x]) := by
  rw [strkCells_snoc, ← h]; rfl

set_option maxRecDepth 20000 in
set_option maxHeartbeats 1600000 in
theorem implRunsOf_yes (s : ByteArray) (w : World) (hs : s.size ≤ maxLen) (hok : okFence s = true) :
    Calls Try.prog 42 #[.string s] w fun e w' => ∃ v, e = .returned (.tuple #[v, .bool true]) ∧ w'.ownsRow w.heap.size 43 3 v (outR s).length (strkCells (outR s)) ∧ Below w.heap.size w w' := by
  obtain ⟨i0, hi, hz0, hz1, hz2⟩ := info_parts info_strk
  obtain ⟨h1, h20⟩ := okFence_size hok
  have HA := Lib.hid (okFence_at hok)
  have H := Lib.hid hok
  clear hok
  go_enter Try.func42, Try.ntmps42
  go_wp2_with (first
    | (go_at_call 56; refine (implIsFence_any s _ hs).mono ?_; rintro e w' ⟨rfl, rfl⟩; rw [H.out])
    | (go_at_call 97; refine (runEnds_any s _ h1 h20).mono ?_; rintro e w1 ⟨rfl, hown, hb⟩; have HM1 := Lib.hid hown; have HB1 := Lib.hid hb; clear hown hb))
  go_loopw [5, 16] (fun v i wr => ∃ j : Nat, j ≤ s.size ∧ i = .int .i64 j ∧ wr.ownsRow (w.heap.size + 1) 43 3 v (accR s j).length (strkCells (accR s j)) ∧ MapAt wr w.heap.size s.size (mapD s s.size) ∧ Below w.heap.size w wr) (fun _ i _ => s.size - (intOf i).toNat)
  case atStart => exact ⟨0, Nat.zero_le _, rfl, World.ownsRow_nil _ _ _ _, HM1.out, HB1.out⟩
  case round =>
    obtain ⟨j, hj, rfl, hown, hmap, hb⟩ := hrel
    have HO := Lib.hid hown
    have HM := Lib.hid hmap
    clear hown hmap HM1 HB1
    by_cases hlt : j < s.size
    · have hkey : Hid (keyOf Try.prog 3 (.int .i64 (j : Int)) = some (.int .i64 (j : Int))) := Lib.hid (keyOf_int_mk Try.underlying3 (small_wf _ (by omega)))
      have HAS := Lib.hid (mapD_start (s := s) hlt)
      have HVAL := Lib.hid (mapD_val s j s.size)
      have j0 : (0 : Int) ≤ (j : Int) := by omega
      have j1 : (j : Int) < (s.size : Int) := by omega
      cases hst : stB s j
      · have HN := Lib.hid (accR_no hst)
        have HAS2 : Hid (has (mapD s s.size) (.int .i64 (j : Int)) = false) := Lib.hid (HAS.out.trans hst)
        clear hst HAS
        go_wp2_with (at_lookup; refine wpList_lookup_own_ok_int _ rfl _ _ 83 rfl 3 3 .i64 keyed_int Try.underlying83 Try.underlying3 (zero_int _) w.heap.size s.size (mapD s s.size) rfl HM.out _ _ rfl hkey.out ?_; intro c hat hwc; rw [HAS2.out])
        go_roundw
        case rel => exact ⟨j + 1, by omega, by go_num, by rw [HN.out]; exact HO.out, HM.out, hb⟩
        case measure => simp [intOf]; omega
      · have HAS2 : Hid (has (mapD s s.size) (.int .i64 (j : Int)) = true) := Lib.hid (HAS.out.trans hst)
        clear HAS
        by_cases hc : s[j] = 46
        · have HN := Lib.hid (accR_bare (nbR_bare (m := s.size) hlt hc))
          have hq : ((s[j].toNat : Int) != 46) = false := by rw [hc]; rfl
          clear hst hc
          go_wp2_with (at_lookup; refine wpList_lookup_own_ok_int _ rfl _ _ 83 rfl 3 3 .i64 keyed_int Try.underlying83 Try.underlying3 (zero_int _) w.heap.size s.size (mapD s s.size) rfl HM.out _ _ rfl hkey.out ?_; intro c hat hwc; rw [HAS2.out])
          go_roundw
          case rel => exact ⟨j + 1, by omega, by go_num, by rw [HN.out]; exact HO.out, HM.out, hb⟩
          case measure => simp [intOf]; omega
        · have HN := Lib.hid (accR_yes hst (nbR_col (m := s.size) hlt hc))
          have hq : ((s[j].toNat : Int) != 46) = true := by
            rw [bne_iff_ne]; intro e; apply hc; exact UInt8.toNat_inj.1 (by have : (46 : UInt8).toNat = 46 := rfl; omega)
          have hen := Lib.hid (encode_ascii s[j] (okB_128 (HA.out j hlt)))
          have HX := Lib.hid (extract_one hlt)
          have hlen := accR_len s j
          have hbs := hb.size
          clear hst hc
          go_wp2_with (first
            | (at_lookup; refine wpList_lookup_own_ok_int _ rfl _ _ 83 rfl 3 3 .i64 keyed_int Try.underlying83 Try.underlying3 (zero_int _) w.heap.size s.size (mapD s s.size) rfl HM.out _ _ rfl hkey.out ?_; intro c hat hwc; rw [HAS2.out])
            | (at_builtin; refine wpList_append_own _ rfl (.tmp 32) (.tmp 40) _ rfl (w.heap.size + 1) 43 i0 _ 3 32 Try.underlying26 hi hz0 hz1 hz2 rfl (by decide) _ (accR s j).length (strkCells (accR s j)) rfl (World.ownsRow.alloc HO.out _) ⟨wr.heap.size, 0, none⟩ 1 1 [.int .i64 (j : Int), .int .i64 c, .string (Utf8.encode (s[j].toNat : Int))] rfl rfl (World.news_of_block (cs := #[.int .i64 (j : Int), .int .i64 c, .string (Utf8.encode (s[j].toNat : Int))]) (t := 43) (fr := (0, 0)) (heap_alloc_new wr _)) (by simp [Value.oneCell']) (by unfold maxLen; omega) (by omega) (by simp; omega) ?_; intro v' w3 hown' hgrow _))
          obtain rfl : c = (eo s s.size j : Int) := same_lit hat HVAL.out
          have HR : Hid (w3.ownsRow (w.heap.size + 1) 43 3 v' (accR s (j + 1)).length (strkCells (accR s (j + 1)))) := Lib.hid (by
            rw [HN.out, List.length_append, ← strkCells_one (accR s j) (mkR s s.size j) (Utf8.encode (s[j].toNat : Int)) (by rw [hen.out, ← HX.out]; rfl)]
            exact hown')
          have HM3 : Hid (MapAt w3 w.heap.size s.size (mapD s s.size)) := Lib.hid (World.ownsMap.kept (World.ownsMap.alloc HM.out _) hgrow (own_block HO.out))
          have HB3 : Hid (Below w.heap.size w w3) := Lib.hid ((hb.alloc hbs _).grown hgrow (by simp; omega) fun x hx => Nat.le_of_succ_le (World.ownsRow.lt HO.out x hx).1)
          clear hown' hgrow
          go_roundw
          case rel => exact ⟨j + 1, by omega, by go_num, HR.out, HM3.out, HB3.out⟩
          case measure => simp [intOf]; omega
    · obtain rfl : j = s.size := by omega
      have HN := Lib.hid (accR_all h1)
      go_wp2
      go_ret2
      exact ⟨_, rfl, own_mono (by rw [← HN.out]; exact HO.out) (Nat.le_succ _), hb⟩
end Go.Proofs.Ytcgkjhomjdgmhaa
