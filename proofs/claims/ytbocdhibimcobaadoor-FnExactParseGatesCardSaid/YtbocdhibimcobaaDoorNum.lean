/- A number's numeral, of both sides. No condition but the numbers' size. -/
import Derived.Test.YtbocdhibimcobaaDoorOpenI
import Derived.Lib.ItoaNum
import Derived.Laws.IdiomStrings
import Derived.Deep.RegionWith
import Derived.Deep.RegionHeld3
namespace Go.Proofs.YtbocdhibimcobaaDoor
open Go.RowKit

theorem digits_lo {n : Nat} (h : n < 10) : Lib.decDigits n = [UInt8.ofNat (48 + n)] := by rw [Lib.decDigits, dif_pos h]
theorem digits_hi {n : Nat} (h : ¬ n < 10) : Lib.decDigits n = Lib.decDigits (n / 10) ++ [UInt8.ofNat (48 + n % 10)] := by rw [Lib.decDigits, dif_neg h]
theorem digits_len (n : Nat) : (Lib.decDigits n).length ≤ n + 1 := by
  induction n using Nat.strongRecOn with
  | ind n ih =>
    by_cases h : n < 10
    · rw [digits_lo h]; simp
    · rw [digits_hi h, List.length_append]
      have := ih (n / 10) (by omega)
      simp only [List.length_cons, List.length_nil]
      omega
def digS (d : Nat) : ByteArray := ⟨[UInt8.ofNat (48 + d)].toArray⟩
theorem conv_cell (d : Nat) (hd : d < 10) (W : World) (a : Addr) (h : W.cell? a = some (.int .u8 (48 + (d : Int)))) :
    (convert 51 9 (.slice (some a) 1 1)).run Tryd.prog W = Result.ok (.string (digS d)) W := by
  refine run_convert_bytes_back W 51 9 5 a 1 [UInt8.ofNat (48 + d)] Tryd.underlying51 Tryd.underlying5 Tryd.underlying9 ?_
  intro j hj
  have : j = 0 := by simp at hj; omega
  subst this
  have e : a.add 0 = a := by simp [Addr.add]
  rw [e, h]
  simp
  omega
theorem conv_new (d : Nat) (hd : d < 10) (W : World) (g : Nat) (hg : g = W.heap.size) :
    (convert 51 9 (.slice (some ⟨g, 0, none⟩) 1 1)).run Tryd.prog (W.alloc (.cells #[.int .u8 (48 + (d : Int))] 5)) = Result.ok (.string (digS d)) (W.alloc (.cells #[.int .u8 (48 + (d : Int))] 5)) := by
  subst hg
  exact conv_cell d hd _ _ (World.cell?_alloc_mark W _ _ _ 0)

set_option maxRecDepth 20000 in
theorem num_lo (n : Nat) (w : World) (h : n < 10) :
    Calls Tryd.prog 49 #[.int .i64 n] w fun e w' => e = .returned (.string ⟨(Lib.decDigits n).toArray⟩) ∧ Below w.heap.size w w' := by
  have HD := Lib.hid (digits_lo h)
  have h1 : ((n : Int) < 10) := by omega
  have hc := conv_new n h w w.heap.size rfl
  go_enter Tryd.func49, Tryd.ntmps49
  go_wp2
  go_ret
  exact ⟨by rw [HD.out]; rfl, below_new w _⟩

theorem conv_below {W w1 : World} (d : Nat) (hd : d < 10) (g : Nat) (hg : g = W.heap.size) (hb : Below (W.alloc (.cells #[.int .u8 (48 + (d : Int))] 5)).heap.size (W.alloc (.cells #[.int .u8 (48 + (d : Int))] 5)) w1) :
    (convert 51 9 (.slice (some ⟨g, 0, none⟩) 1 1)).run Tryd.prog w1 = Result.ok (.string (digS d)) w1 := by
  subst hg
  refine conv_cell d hd _ _ ?_
  rw [hb.cell (p := ⟨W.heap.size, 0, none⟩) (by show W.heap.size < (W.heap.push _).size; rw [Array.size_push]; omega)]
  exact World.cell?_alloc_mark W _ _ _ 0
theorem num_fit (n : Nat) (h : ¬ n < 10) : (⟨(Lib.decDigits (n / 10)).toArray⟩ : ByteArray) ++ digS (n % 10) = ⟨(Lib.decDigits n).toArray⟩ := by
  rw [digits_hi h]
  apply bytes_ext
  simp [digS]
set_option maxRecDepth 200000 in
set_option maxHeartbeats 1000000 in
theorem num_hi (n : Nat) (w : World) (h : ¬ n < 10) (hm : n < 1000000)
    (ih : ∀ W, Calls Tryd.prog 49 #[.int .i64 ((n / 10 : Nat) : Int)] W fun e w' => e = .returned (.string ⟨(Lib.decDigits (n / 10)).toArray⟩) ∧ Below W.heap.size W w') :
    Calls Tryd.prog 49 #[.int .i64 n] w fun e w' => e = .returned (.string ⟨(Lib.decDigits n).toArray⟩) ∧ Below w.heap.size w w' := by
  have HF := Lib.hid (num_fit n h)
  have IH := Lib.hid ih
  obtain ⟨q, hq⟩ : ∃ q, q = n / 10 := ⟨_, rfl⟩
  obtain ⟨r, hr⟩ : ∃ r, r = n % 10 := ⟨_, rfl⟩
  have hr10 : r < 10 := by omega
  rw [← hq] at IH HF
  rw [← hr] at HF
  have hxs : ((⟨(Lib.decDigits q).toArray⟩ : ByteArray).size : Int) + ((digS r).size : Int) ≤ 9223372036854775807 := by
    have h1 := digits_len q
    have h2 : (⟨(Lib.decDigits q).toArray⟩ : ByteArray).size = (Lib.decDigits q).length := by show (Lib.decDigits q).toArray.size = _; simp
    have h3 : (digS r).size = 1 := rfl
    rw [h2, h3]
    omega
  obtain ⟨y, hy⟩ : ∃ y : ByteArray, y = digS r := ⟨_, rfl⟩
  obtain ⟨x, hx⟩ : ∃ x : ByteArray, x = ⟨(Lib.decDigits q).toArray⟩ := ⟨_, rfl⟩
  rw [← hx] at IH HF hxs
  rw [← hy] at HF hxs
  have h1 : ¬ ((n : Int) < 10) := by omega
  have hd1 : (n : Int).tdiv 10 = (q : Int) := by rw [hq]; rfl
  have hd2 : (n : Int).tmod 10 = (r : Int) := by rw [hr]; rfl
  have w1 : IntKind.i64.wrap (q : Int) = (q : Int) := by rw [IntKind.wrap_i64]; omega
  have w2 : IntKind.i64.wrap (48 + (r : Int)) = 48 + (r : Int) := by rw [IntKind.wrap_i64]; omega
  have w3 : IntKind.u8.wrap (48 + (r : Int)) = 48 + (r : Int) := by rw [IntKind.wrap_u8]; omega
  have HN := Lib.hid (conv_new r hr10)
  rw [← hy] at HN
  have HCB := Lib.hid fun W w1 => @conv_below W w1 r hr10 w.heap.size
  rw [← hy] at HCB
  have hcn : (convert 51 9 (.slice (some ⟨w.heap.size, 0, none⟩) 1 1)).run Tryd.prog (w.alloc (.cells #[.int .u8 (48 + (r : Int))] 5)).drew = Result.ok (.string y) (w.alloc (.cells #[.int .u8 (48 + (r : Int))] 5)).drew := HN.out w.drew w.heap.size rfl
  clear ih hx hy hq hr h
  go_enter Tryd.func49, Tryd.ntmps49
  go_wp2
  go_region_with (first
    | (go_at_call 49; refine (IH.out _).mono ?_; rintro e w1 ⟨rfl, hb⟩; have HB1 := Lib.hid hb; (first | have hc := HCB.out w.drew _ rfl hb | (have hc := HN.out w1 w1.heap.size rfl)); clear hb))
  all_goals
    go_wp2
    go_ret
    refine ⟨ret_str HF.out, ?_⟩
    first
      | exact below_next (below_next (Below.refl _ _).drew HB1.out) (below_new _ _)
      | exact below_next ((below_new w _).drew) HB1.out
theorem num_any (n : Nat) (w : World) (hm : n < 1000000) :
    Calls Tryd.prog 49 #[.int .i64 n] w fun e w' => e = .returned (.string ⟨(Lib.decDigits n).toArray⟩) ∧ Below w.heap.size w w' := by
  induction n using Nat.strongRecOn generalizing w with
  | ind n ih =>
    by_cases h : n < 10
    · exact num_lo n w h
    · exact num_hi n w h hm fun W => ih (n / 10) (by omega) W (by omega)
end Go.Proofs.YtbocdhibimcobaaDoor
