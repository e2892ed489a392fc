/- A list of numbers written as a text, by the model. No condition but the numbers' sizes. -/
import Derived.Test.YtnnhkogmppheeaaDoorNum
import Derived.Test.YtnnhkogmppheeaaDoorNums
import Derived.Lib.Join
import Derived.Lib.ItoaLen
namespace Go.Proofs.YtnnhkogmppheeaaDoor
open Go.RowKit

/-- numbers of 64 bits, and not many -/
def Few (L : List Int) : Prop := 1 ≤ L.length ∧ L.length ≤ 1000 ∧ ∀ x ∈ L, -9223372036854775808 ≤ x ∧ x ≤ 9223372036854775807
theorem itoa_num {x : Int} (h : 0 ≤ x) : Lib.itoa x = Lib.decDigits x.toNat := by unfold Lib.itoa; rw [if_neg (by omega)]
def numB (x : Int) : ByteArray := ⟨(Lib.itoa x).toArray⟩
def txtL (L : List Int) : List UInt8 := Lib.join (L.map Lib.itoa) [45]
def txt (L : List Int) : ByteArray := ⟨(txtL L).toArray⟩
theorem numB_list (x : Int) : (numB x).data.toList = Lib.itoa x := by simp [numB]
theorem txt_list (L : List Int) : (txt L).data.toList = txtL L := by simp [txt]
theorem join_snoc (xs : List (List UInt8)) (x sep : List UInt8) (h : xs ≠ []) : Lib.join (xs ++ [x]) sep = Lib.join xs sep ++ sep ++ x := by
  cases xs with
  | nil => exact absurd rfl h
  | cons a r =>
    rw [List.cons_append, Lib.join_cons, Lib.join_cons]
    simp [Lib.joinTail]
theorem txt_nil : txt ([] : List Int) = ⟨#[]⟩ := rfl
theorem txt_zero (L : List Int) : txt (L.take 0) = ⟨#[]⟩ := rfl
theorem txt_one {L : List Int} (h : 0 < L.length) : txt (L.take 1) = ⟨#[]⟩ ++ numB L[0] := by
  have e : L.take 1 = [L[0]] := by rw [List.take_succ_eq_append_getElem h]; rfl
  apply bytes_ext
  rw [append_list, txt_list, numB_list, e]
  simp [txtL, Lib.join_one]
theorem txt_succ {L : List Int} {k : Nat} (h : k < L.length) (h0 : 0 < k) : txt (L.take (k + 1)) = txt (L.take k) ++ ⟨#[45]⟩ ++ numB L[k] := by
  have e : L.take (k + 1) = L.take k ++ [L[k]] := List.take_succ_eq_append_getElem h
  apply bytes_ext
  rw [append_list, append_list, txt_list, txt_list, numB_list, e]
  unfold txtL
  rw [List.map_append, List.map_cons, List.map_nil, join_snoc]
  intro hn
  have := congrArg List.length hn
  rw [List.length_map, List.length_take, List.length_nil] at this
  omega
theorem numB_size {x : Int} (h : -9223372036854775808 ≤ x ∧ x ≤ 9223372036854775807) : (numB x).size ≤ 100000 := by
  have h1 := Lib.itoa_length_le x h.1 h.2
  have h2 : (numB x).size = (Lib.itoa x).length := by show (Lib.itoa x).toArray.size = _; simp
  rw [h2]; omega
theorem txt_size {L : List Int} (hx : ∀ x ∈ L, -9223372036854775808 ≤ x ∧ x ≤ 9223372036854775807) (k : Nat) (hk : k ≤ L.length) : (txt (L.take k)).size ≤ k * 100001 := by
  induction k with
  | zero => exact Nat.zero_le _
  | succ k ih =>
    have i := ih (by omega)
    have hn := numB_size (hx L[k] (List.getElem_mem (by omega)))
    rcases Nat.eq_zero_or_pos k with h0 | h0
    · subst h0
      rw [txt_one (by omega), ByteArray.size_append]
      have : (⟨#[]⟩ : ByteArray).size = 0 := rfl
      omega
    · rw [txt_succ (by omega) h0, ByteArray.size_append, ByteArray.size_append]
      have : (⟨#[45]⟩ : ByteArray).size = 1 := rfl
      omega
theorem num_int {x : Int} (h : 0 ≤ x ∧ x ≤ 99999) (w : World) :
    Calls Tryd.prog 21 #[.int .i64 x] w fun e w' => e = .returned (.string (numB x)) ∧ Below w.heap.size w w' := by
  have e : x = ((x.toNat : Nat) : Int) := by omega
  have := num_any x.toNat w (by omega)
  rw [← e] at this
  have e2 : (⟨(Lib.decDigits x.toNat).toArray⟩ : ByteArray) = numB x := by unfold numB; rw [itoa_num h.1]
  rw [e2] at this
  exact this

set_option maxRecDepth 100000 in
set_option maxHeartbeats 2000000 in
theorem shText_any (A : Option Addr) (c : Nat) (L : List Int) (w : World) (hf : Few L) (hsm : ∀ x ∈ L, 0 ≤ x ∧ x ≤ 99999) (h : IntSl w A L) :
    Calls Tryd.prog 14 #[.slice A L.length c] w fun e w' => e = .returned (.string (txt L)) ∧ Below w.heap.size w w' := by
  obtain ⟨f1, f2, f3⟩ := hf
  have HF := Lib.hid hsm
  have HS := Lib.hid fun k hk => txt_size f3 k hk
  have HL := Lib.hid h
  have hL : txt (L.take L.length) = txt L := by rw [List.take_length]
  have HT := Lib.hid hL
  clear h f3 hL hsm
  go_enter Tryd.func14, Tryd.ntmps14
  go_wp2
  go_loopw [3, 4, 5, 8] (fun s _ _ i wr => ∃ k : Nat, k ≤ L.length ∧ i = .int .i64 k ∧ s = .string (txt (L.take k)) ∧ Below w.heap.size w wr) (fun _ _ _ i _ => L.length - (intOf i).toNat)
  case atStart => exact ⟨0, Nat.zero_le _, rfl, rfl, Below.refl _ _⟩
  case round =>
    obtain ⟨k, hk, rfl, rfl, hb⟩ := hrel
    have HB := Lib.hid hb
    by_cases hlt : k < L.length
    · obtain ⟨g, off, rfl, -, hat⟩ := (HL.out.below hb).some (by omega)
      have c1 := hat k hlt
      have HX := Lib.hid (HF.out L[k] (List.getElem_mem hlt))
      have hs := HS.out k hk
      have hn : (numB L[k]).size ≤ 100000 := numB_size (by have := HX.out; omega)
      have HN := Lib.hid fun W => num_int HX.out W
      clear hat hb
      rcases Nat.eq_zero_or_pos k with h0 | h0
      · have HE := Lib.hid (txt_one (L := L) (by omega))
        have e0 : txt (L.take k) = ⟨#[]⟩ := by rw [h0]; rfl
        have ek : L.take (k + 1) = L.take 1 := by rw [h0]
        obtain ⟨y, hy⟩ : ∃ y, y = numB L[k] := ⟨_, rfl⟩
        have hy0 : numB L[0] = y := by rw [hy]; congr 1; simp only [h0]
        obtain ⟨z, hz⟩ : ∃ z, z = L[k] := ⟨_, rfl⟩
        have HK := Lib.hid ek
        rw [hy0] at HE
        rw [← hy] at hn HN
        rw [← hz] at HN c1
        rw [e0]
        have s2 : (((⟨#[]⟩ : ByteArray).size : Nat) : Int) + (y.size : Int) ≤ 9223372036854775807 := by
          have : (⟨#[]⟩ : ByteArray).size = 0 := rfl
          omega
        have hk0 : ¬ (0 : Int) < (k : Int) := by omega
        have hk1 : (k : Int) ≤ 0 := by omega
        clear hy hz hy0 e0 ek h0
        go_wp2_with (go_at_call 21; refine (HN.out _).mono ?_; rintro e w1 ⟨rfl, hb1⟩; have HB1 := Lib.hid hb1; clear hb1)
        go_roundw
        case rel => exact ⟨k + 1, by omega, by go_num, by rw [HK.out, HE.out], below_next HB.out HB1.out⟩
        case measure => simp [intOf]; omega
      · have HE := Lib.hid (txt_succ hlt h0)
        obtain ⟨x, hx⟩ : ∃ x, x = txt (L.take k) := ⟨_, rfl⟩
        obtain ⟨y, hy⟩ : ∃ y, y = numB L[k] := ⟨_, rfl⟩
        obtain ⟨z, hz⟩ : ∃ z, z = L[k] := ⟨_, rfl⟩
        rw [← hx] at HE hs ⊢
        rw [← hy] at HE hn HN
        rw [← hz] at HN c1
        have s1 : (x.size : Int) + ((⟨#[45]⟩ : ByteArray).size : Int) ≤ 9223372036854775807 := by
          have : (⟨#[45]⟩ : ByteArray).size = 1 := rfl
          omega
        have s2 : ((x ++ ⟨#[45]⟩ : ByteArray).size : Int) + (y.size : Int) ≤ 9223372036854775807 := by
          rw [ByteArray.size_append]
          have : (⟨#[45]⟩ : ByteArray).size = 1 := rfl
          omega
        have hk0 : (0 : Int) < (k : Int) := by omega
        clear hx hy hz
        go_wp2_with (go_at_call 21; refine (HN.out _).mono ?_; rintro e w1 ⟨rfl, hb1⟩; have HB1 := Lib.hid hb1; clear hb1)
        go_roundw
        case rel => exact ⟨k + 1, by omega, by go_num, by rw [HE.out], below_next HB.out HB1.out⟩
        case measure => simp [intOf]; omega
    · obtain rfl : k = L.length := by omega
      clear hb
      go_wp2
      go_ret
      exact ⟨ret_str HT.out, HB.out⟩
end Go.Proofs.YtnnhkogmppheeaaDoor
