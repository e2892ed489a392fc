/- Gates written as a text by the model: 'spec.gaText'. No condition but the numbers' sizes. -/
import Derived.Test.YtbocdhibimcobaaDoorGaTxt
namespace Go.Proofs.YtbocdhibimcobaaDoor.Ga
open Go.RowKit

set_option maxRecDepth 100000 in
set_option maxHeartbeats 2000000 in
theorem gaText_any (A : Option Addr) (c : Nat) (L : List Int) (w : World) (hf : Few L) (hsm : ∀ x ∈ L, 0 ≤ x ∧ x ≤ 99999) (h : IntSl w A L) :
    Calls Tryd.prog 32 #[.slice A L.length c] w fun e w' => e = .returned (.string (txt L)) ∧ Below w.heap.size w w' := by
  obtain ⟨f1, f2, f3⟩ := hf
  have HF := Lib.hid hsm
  have HS := Lib.hid fun k hk => txt_size f3 k hk
  have HL := Lib.hid h
  have hL : txt (L.take L.length) = txt L := by rw [List.take_length]
  have HT := Lib.hid hL
  clear h f3 hL hsm
  go_enter Tryd.func32, Tryd.ntmps32
  go_wp2
  go_loopw [3, 4, 5, 8] (fun s _ _ i wr => ∃ k : Nat, k ≤ L.length ∧ i = .int .i64 k ∧ s = .string (txt (L.take k)) ∧ Below w.heap.size w wr) (fun _ _ _ i _ => L.length - (intOf i).toNat)
  case atStart => exact ⟨0, Nat.zero_le _, rfl, rfl, Below.refl _ _⟩
  case round =>
    obtain ⟨k, hk, rfl, rfl, hb⟩ := hrel
    have HB := Lib.hid hb
    by_cases hlt : k < L.length
    · obtain ⟨g, off, rfl, -, hat⟩ := (HL.out.below hb).some (by omega)
      have c1 := hat k hlt
      have HX := Lib.hid (HF.out L[k] (List.getElem_mem hlt))
      have hs := HS.out k hk
      have hn : (numB L[k]).size ≤ 100000 := numB_size (by have := HX.out; omega)
      have HN := Lib.hid fun W => num_int HX.out W
      clear hat hb
      rcases Nat.eq_zero_or_pos k with h0 | h0
      · have HE := Lib.hid (txt_one (L := L) (by omega))
        have e0 : txt (L.take k) = ⟨#[]⟩ := by rw [h0]; rfl
        have ek : L.take (k + 1) = L.take 1 := by rw [h0]
        obtain ⟨y, hy⟩ : ∃ y, y = numB L[k] := ⟨_, rfl⟩
        have hy0 : numB L[0] = y := by rw [hy]; congr 1; simp only [h0]
        obtain ⟨z, hz⟩ : ∃ z, z = L[k] := ⟨_, rfl⟩
        have HK := Lib.hid ek
        rw [hy0] at HE
        rw [← hy] at hn HN
        rw [← hz] at HN c1
        rw [e0]
        have s2 : (((⟨#[]⟩ : ByteArray).size : Nat) : Int) + (y.size : Int) ≤ 9223372036854775807 := by
          have : (⟨#[]⟩ : ByteArray).size = 0 := rfl
          omega
        have hk0 : ¬ (0 : Int) < (k : Int) := by omega
        have hk1 : (k : Int) ≤ 0 := by omega
        clear hy hz hy0 e0 ek h0
        go_wp2_with (go_at_call 49; refine (HN.out _).mono ?_; rintro e w1 ⟨rfl, hb1⟩; have HB1 := Lib.hid hb1; clear hb1)
        go_roundw
        case rel => exact ⟨k + 1, by omega, by go_num, by rw [HK.out, HE.out], below_next HB.out HB1.out⟩
        case measure => simp [intOf]; omega
      · have HE := Lib.hid (txt_succ hlt h0)
        obtain ⟨x, hx⟩ : ∃ x, x = txt (L.take k) := ⟨_, rfl⟩
        obtain ⟨y, hy⟩ : ∃ y, y = numB L[k] := ⟨_, rfl⟩
        obtain ⟨z, hz⟩ : ∃ z, z = L[k] := ⟨_, rfl⟩
        rw [← hx] at HE hs ⊢
        rw [← hy] at HE hn HN
        rw [← hz] at HN c1
        have s1 : (x.size : Int) + ((⟨#[124]⟩ : ByteArray).size : Int) ≤ 9223372036854775807 := by
          have : (⟨#[124]⟩ : ByteArray).size = 1 := rfl
          omega
        have s2 : ((x ++ ⟨#[124]⟩ : ByteArray).size : Int) + (y.size : Int) ≤ 9223372036854775807 := by
          rw [ByteArray.size_append]
          have : (⟨#[124]⟩ : ByteArray).size = 1 := rfl
          omega
        have hk0 : (0 : Int) < (k : Int) := by omega
        clear hx hy hz
        go_wp2_with (go_at_call 49; refine (HN.out _).mono ?_; rintro e w1 ⟨rfl, hb1⟩; have HB1 := Lib.hid hb1; clear hb1)
        go_roundw
        case rel => exact ⟨k + 1, by omega, by go_num, by rw [HE.out], below_next HB.out HB1.out⟩
        case measure => simp [intOf]; omega
    · obtain rfl : k = L.length := by omega
      clear hb
      go_wp2
      go_ret
      exact ⟨ret_str HT.out, HB.out⟩
end Go.Proofs.YtbocdhibimcobaaDoor.Ga
