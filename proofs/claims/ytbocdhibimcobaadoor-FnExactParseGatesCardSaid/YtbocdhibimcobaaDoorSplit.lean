/- How the model splits a text: 'spec.l1Split'. No condition but the text's length. -/
import Derived.Test.YtbocdhibimcobaaDoorRead
namespace Go.Proofs.YtbocdhibimcobaaDoor
open Go.RowKit

def spl (s : ByteArray) (b : UInt8) : Nat → List ByteArray × Nat
  | 0 => ([], 0)
  | k + 1 => if s.data.toList.getD k 0 = b then ((spl s b k).1 ++ [s.extract (spl s b k).2 k], k + 1) else spl s b k
def pieces (s : ByteArray) (b : UInt8) : List ByteArray := (spl s b s.size).1 ++ [s.extract (spl s b s.size).2 s.size]
theorem spl_le (s : ByteArray) (b : UInt8) (k : Nat) : (spl s b k).2 ≤ k := by
  induction k with
  | zero => exact Nat.le_refl _
  | succ k ih => unfold spl; split <;> simp_all <;> omega
theorem spl_len (s : ByteArray) (b : UInt8) (k : Nat) : (spl s b k).1.length ≤ k := by
  induction k with
  | zero => exact Nat.le_refl _
  | succ k ih =>
    unfold spl; split
    · rw [List.length_append]; simp; omega
    · omega
theorem getD_byte {s : ByteArray} {k : Nat} (h : k < s.size) : s.data.toList.getD k 0 = s[k] := by
  rw [List.getD_eq_getElem?_getD, List.getElem?_eq_getElem (by simpa using h)]; simp; rfl
theorem spl_yes {s : ByteArray} {b : UInt8} {k : Nat} (h : k < s.size) (e : s[k] = b) : spl s b (k + 1) = ((spl s b k).1 ++ [s.extract (spl s b k).2 k], k + 1) := by
  rw [spl, if_pos (by rw [getD_byte h, e])]
theorem spl_no {s : ByteArray} {b : UInt8} {k : Nat} (h : k < s.size) (e : s[k] ≠ b) : spl s b (k + 1) = spl s b k := by
  rw [spl, if_neg (by rw [getD_byte h]; exact e)]

/-- a list of texts that the call itself has made -/
def OwnStrs (w : World) (base : Nat) (v : Value) (ps : List ByteArray) : Prop := w.ownsRow base 9 1 v ps.length (ps.map Value.string)
theorem OwnStrs.snoc {w : World} {base : Nat} {v : Value} {ps : List ByteArray} {x : ByteArray} (h : w.ownsRow base 9 1 v (ps.length + 1) (ps.map Value.string ++ [.string x])) : OwnStrs w base v (ps ++ [x]) := by
  unfold OwnStrs
  rw [List.length_append, List.map_append]
  exact h
theorem info_str1 : (Tryd.prog.info? 9).map (fun i => (i.zero, i.size, i.bytes)) = some (some (.string ⟨#[]⟩), 1, 16) := by kernel_rfl

set_option maxRecDepth 100000 in
set_option maxHeartbeats 2000000 in
theorem split_any (s : ByteArray) (b : UInt8) (w : World) (hs : s.size ≤ 1048576) :
    Calls Tryd.prog 35 #[.string s, .int .u8 b.toNat] w fun e w' => ∃ v, e = .returned v ∧ OwnStrs w' w.heap.size v (pieces s b) ∧ Below w.heap.size w w' := by
  obtain ⟨i0, hi, hz0, hz1, hz2⟩ := info_parts info_str1
  have HLE := Lib.hid fun k => spl_le s b k
  have HLN := Lib.hid fun k => spl_len s b k
  go_enter Tryd.func35, Tryd.ntmps35
  go_wp2
  go_loopw [5, 6, 7] (fun o f i wr => ∃ k : Nat, k ≤ s.size ∧ i = .int .i64 k ∧ f = .int .i64 ((spl s b k).2 : Nat) ∧ OwnStrs wr w.heap.size o (spl s b k).1 ∧ Below w.heap.size w wr) (fun _ _ i _ => s.size - (intOf i).toNat)
  case atStart => exact ⟨0, Nat.zero_le _, rfl, rfl, World.ownsRow_nil w w.heap.size _ 1, Below.refl _ _⟩
  case round =>
    obtain ⟨k, hk, rfl, rfl, hown, hb⟩ := hrel
    have HO := Lib.hid hown
    have HB := Lib.hid hb
    have hbs := hb.size
    have hle := HLE.out k
    have hln := HLN.out k
    obtain ⟨A6, c6, hv6⟩ := own_any hown
    subst hv6
    clear hown hb
    by_cases hlt : k < s.size
    · by_cases he : s[k] = b
      · have HY := Lib.hid (spl_yes hlt he)
        have heq : (s[k].toNat : Int) = (b.toNat : Int) := by rw [he]
        obtain ⟨P, hP⟩ : ∃ P, P = (spl s b k).1 := ⟨_, rfl⟩
        obtain ⟨f, hf⟩ : ∃ f, f = (spl s b k).2 := ⟨_, rfl⟩
        rw [← hP, ← hf] at HY
        rw [← hP] at HO hln ⊢
        rw [← hf] at hle ⊢
        clear he hP hf
        go_wp2_with (at_builtin; refine wpList_append_own _ rfl (.tmp 19) (.tmp 24) _ rfl w.heap.size 9 i0 _ 1 16 Tryd.underlying35 hi hz0 hz1 hz2 rfl (by decide) _ P.length (P.map Value.string) rfl (World.ownsRow.alloc HO.out _) ⟨_, 0, none⟩ 1 1 [.string (s.extract f k)] rfl rfl (World.news_of_block (cs := #[.string (s.extract f k)]) (t := 9) (fr := (0, 0)) (heap_alloc_new _ _)) (by simp [Value.oneCell']) (by unfold maxLen; omega) (by omega) (by simp; omega) ?_; intro v' w3 hown' hgrow _; have HR : Hid (OwnStrs w3 w.heap.size v' (P ++ [s.extract f k])) := Lib.hid (OwnStrs.snoc hown'); have HB3 := Lib.hid ((HB.out.alloc hbs _).grown hgrow (by simp; omega) fun k hk => (World.ownsRow.lt HO.out k hk).1); clear hown' hgrow)
        go_roundw
        case rel => exact ⟨k + 1, by omega, by go_num, by rw [HY.out]; go_num, by rw [HY.out]; exact HR.out, HB3.out⟩
        case measure => simp [intOf]; omega
      · have HY := Lib.hid (spl_no hlt he)
        have hne : ¬ (s[k].toNat : Int) = (b.toNat : Int) := by
          intro h
          exact he (UInt8.toNat.inj (by omega))
        have hneb : ((s[k].toNat : Int) == (b.toNat : Int)) = false := by rw [beq_eq_false_iff_ne]; exact hne
        clear he
        go_wp2
        go_roundw
        case rel => exact ⟨k + 1, by omega, by go_num, by rw [HY.out], by rw [HY.out]; exact HO.out, HB.out⟩
        case measure => simp [intOf]; omega
    · obtain rfl : k = s.size := by omega
      obtain ⟨P, hP⟩ : ∃ P, P = (spl s b s.size).1 := ⟨_, rfl⟩
      obtain ⟨f, hf⟩ : ∃ f, f = (spl s b s.size).2 := ⟨_, rfl⟩
      have HP : Hid (pieces s b = P ++ [s.extract f s.size]) := Lib.hid (by unfold pieces; rw [hP, hf])
      rw [← hP] at HO hln ⊢
      rw [← hf] at hle ⊢
      clear hP hf
      go_wp2_with (at_builtin; refine wpList_append_own _ rfl (.tmp 28) (.tmp 32) _ rfl w.heap.size 9 i0 _ 1 16 Tryd.underlying35 hi hz0 hz1 hz2 rfl (by decide) _ P.length (P.map Value.string) rfl (World.ownsRow.alloc HO.out _) ⟨_, 0, none⟩ 1 1 [.string (s.extract f s.size)] rfl rfl (World.news_of_block (cs := #[.string (s.extract f s.size)]) (t := 9) (fr := (0, 0)) (heap_alloc_new _ _)) (by simp [Value.oneCell']) (by unfold maxLen; omega) (by omega) (by simp; omega) ?_; intro v' w3 hown' hgrow _; have HR : Hid (OwnStrs w3 w.heap.size v' (P ++ [s.extract f s.size])) := Lib.hid (OwnStrs.snoc hown'); have HB3 := Lib.hid ((HB.out.alloc hbs _).grown hgrow (by simp; omega) fun k hk => (World.ownsRow.lt HO.out k hk).1); clear hown' hgrow)
      go_ret
      exact ⟨_, rfl, by rw [HP.out]; exact HR.out, HB3.out⟩
end Go.Proofs.YtbocdhibimcobaaDoor
