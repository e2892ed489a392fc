/- Lists of colours: 'spec.coListed'. No condition but the lists' form. -/
import Derived.Test.YteefkgnojdgehaaListMath
import Derived.Test.YteefkgnojdgehaaStrS
import Derived.Test.YteefkgnojdgehaaRow
import Derived.RegionTactic
namespace Go.Proofs.Yteefkgnojdgehaa
open Go.RowKit

def bytN (s : ByteArray) : List Nat := s.data.toList.map UInt8.toNat
theorem bytN_len (s : ByteArray) : (bytN s).length = s.size := by unfold bytN; simp
theorem bytN_at {s : ByteArray} {k : Nat} (h : k < s.size) : (bytN s)[k]'(by rw [bytN_len]; exact h) = s[k].toNat := by
  unfold bytN; simp; rfl
def lettB (LL : List ByteArray) (j : Nat) : List Nat := bytN (LL.getD j ByteArray.empty)
theorem lettB_at {LL : List ByteArray} {j : Nat} (h : j < LL.length) : lettB LL j = bytN LL[j] := by
  unfold lettB; rw [List.getD_eq_getElem?_getD, List.getElem?_eq_getElem h]; rfl
theorem lettB_out {LL : List ByteArray} {j : Nat} (h : ¬ j < LL.length) : lettB LL j = [] := by
  unfold lettB; rw [List.getD_eq_getElem?_getD, List.getElem?_eq_none (by omega)]; rfl
/-- colours, increasing -/
structure Letts (s : ByteArray) : Prop where
  n1 : 1 ≤ s.size
  bd : ∀ k (h : k < s.size), 97 ≤ s[k].toNat ∧ s[k].toNat ≤ 101
  inc : ∀ k (h : k + 1 < s.size), s[k].toNat < s[k + 1].toNat
theorem Letts.up {s : ByteArray} (h : Letts s) : ∀ d k (hk : k + d + 1 < s.size), s[k].toNat + d < s[k + d + 1].toNat
  | 0, k, hk => by have := h.inc k hk; omega
  | d + 1, k, hk => by
    have h1 := h.up d k (by omega)
    have h2 := h.inc (k + d + 1) (by omega)
    have e : k + (d + 1) + 1 = k + d + 1 + 1 := by omega
    simp only [e]
    omega
theorem Letts.n5 {s : ByteArray} (h : Letts s) : s.size ≤ 5 := by
  by_cases hs : s.size ≤ 5
  · exact hs
  · have h1 := h.up 4 0 (by omega)
    have h2 := h.bd 0 (by omega)
    have h3 := h.bd (0 + 4 + 1) (by omega)
    omega
theorem Letts.nodup {s : ByteArray} (h : Letts s) : (bytN s).Nodup := by
  rw [List.nodup_iff_pairwise_ne, List.pairwise_iff_getElem]
  intro i j hi hj hij
  rw [bytN_len] at hi hj
  rw [bytN_at hi, bytN_at hj]
  obtain ⟨d, rfl⟩ : ∃ d, j = i + d + 1 := ⟨j - i - 1, by omega⟩
  have := h.up d i hj
  omega
theorem Letts.keys {s : ByteArray} (h : Letts s) : ∀ z ∈ bytN s, z ∈ keys5 := fun z hz => by
  obtain ⟨k, hk, rfl⟩ := List.mem_iff_getElem.1 hz
  rw [bytN_len] at hk
  rw [bytN_at hk, keys5_mem]
  exact h.bd k hk
structure OkLs (LL : List ByteArray) : Prop where
  n1 : 1 ≤ LL.length
  n20 : LL.length ≤ 20
  let_ : ∀ j (h : j < LL.length), Letts LL[j]
theorem OkLs.bl {LL : List ByteArray} (h : OkLs LL) : OkBl (lettB LL) := by
  have hj : ∀ j, (∃ hj : j < LL.length, lettB LL j = bytN LL[j]) ∨ lettB LL j = [] := fun j => by
    by_cases e : j < LL.length
    · exact .inl ⟨e, lettB_at e⟩
    · exact .inr (lettB_out e)
  refine ⟨fun j => ?_, fun j z hz => ?_, fun j => ?_⟩
  · rcases hj j with ⟨e, h2⟩ | h2
    · rw [h2]; exact (h.let_ j e).nodup
    · rw [h2]; exact List.nodup_nil
  · rcases hj j with ⟨e, h2⟩ | h2
    · rw [h2] at hz; exact (h.let_ j e).keys z hz
    · rw [h2] at hz; cases hz
  · rcases hj j with ⟨e, h2⟩ | h2
    · rw [h2, bytN_len]; exact (h.let_ j e).n5
    · rw [h2]; exact Nat.zero_le _
/-- the first k letters of a list counted -/
def prW (g : Nat → Int) (s : ByteArray) (t k : Nat) : Int := sumL (fun z => if z = t then 0 else g z) ((bytN s).take k)
theorem prW_zero (g : Nat → Int) (s : ByteArray) (t : Nat) : prW g s t 0 = 0 := by unfold prW; rw [List.take_zero]; rfl
theorem prW_succ {g : Nat → Int} {s : ByteArray} {t k : Nat} (h : k < s.size) : prW g s t (k + 1) = prW g s t k + (if s[k].toNat = t then 0 else g s[k].toNat) := by
  unfold prW
  rw [List.take_succ_eq_append_getElem (by rw [bytN_len]; exact h), sumL_append, bytN_at h]
  show _ + ((if s[k].toNat = t then 0 else g s[k].toNat) + 0) = _
  rw [Int.add_zero]
theorem prW_end {g : Nat → Int} {s : ByteArray} {t : Nat} : prW g s t s.size = sumL (fun z => if z = t then 0 else g z) (bytN s) := by
  unfold prW; rw [List.take_of_length_le (by rw [bytN_len]; exact Nat.le_refl _)]
theorem prW_bd {g : Nat → Int} {C : Int} (h : ∀ z, 0 ≤ g z ∧ g z ≤ C) {s : ByteArray} (hs : s.size ≤ 5) (t k : Nat) : 0 ≤ prW g s t k ∧ prW g s t k ≤ 5 * C := by
  unfold prW
  have hC : 0 ≤ C := by have := h 0; omega
  have h1 := sumL_le (g := fun z => if z = t then 0 else g z) (C := C) (fun z => by
    show (if z = t then 0 else g z) ≤ C
    split
    · exact hC
    · exact (h z).2) ((bytN s).take k)
  have h2 : (((bytN s).take k).length : Int) * C ≤ 5 * C := Int.mul_le_mul_of_nonneg_right (by rw [List.length_take, bytN_len]; omega) hC
  refine ⟨sumL_nn (fun z => ?_) _, by omega⟩
  split
  · exact Int.le_refl _
  · exact (h z).1
/-- the row under way -/
def lsN (g : Nat → Int) (s : ByteArray) (a z : Nat) : Int := if z < a then prW g s (97 + z) s.size else 0
def lsA (g : Nat → Int) (s : ByteArray) (a k z : Nat) : Int := if z < a then prW g s (97 + z) s.size else if z = a then prW g s (97 + a) k else 0
theorem lsN_first {g : Nat → Int} {s : ByteArray} {a : Nat} (z : Nat) : lsN g s a z = lsA g s a 0 z := by
  unfold lsN lsA
  split
  · rfl
  · split
    · rw [prW_zero]
    · rfl
theorem lsA_at (g : Nat → Int) (s : ByteArray) (a k : Nat) : lsA g s a k a = prW g s (97 + a) k := by unfold lsA; rw [if_neg (by omega), if_pos rfl]
theorem lsA_put {g : Nat → Int} {s : ByteArray} {a k : Nat} {x : Int} (h : prW g s (97 + a) (k + 1) = x) (z : Nat) : (if z = a then x else lsA g s a k z) = lsA g s a (k + 1) z := by
  unfold lsA
  by_cases e : z = a
  · rw [if_pos e, if_neg (by omega), if_pos e, h]
  · rw [if_neg e]; split
    · rfl
    · first | rfl | rw [if_neg e, if_neg e]
theorem lsA_same {g : Nat → Int} {s : ByteArray} {a k : Nat} (h : prW g s (97 + a) (k + 1) = prW g s (97 + a) k) (z : Nat) : lsA g s a k z = lsA g s a (k + 1) z := by unfold lsA; rw [h]
theorem lsA_end {g : Nat → Int} {s : ByteArray} {a : Nat} (z : Nat) : lsA g s a s.size z = lsN g s (a + 1) z := by
  unfold lsA lsN
  by_cases e : z < a
  · rw [if_pos e, if_pos (by omega)]
  · rw [if_neg e]
    by_cases e2 : z = a
    · rw [if_pos e2, if_pos (by omega), e2]
    · rw [if_neg e2, if_neg (by omega)]
theorem grown_none' {w w' : World} (h : w.grownBy w' none) : Below w.heap.size w w' := (Below.refl _ _).grown h (Nat.le_refl _) (fun k hk => by cases hk)
theorem own_five (w : World) {b : Nat} (hb : b ≤ w.heap.size) : RowIs (w.alloc (.cells #[.int .i64 1, .int .i64 1, .int .i64 1, .int .i64 1, .int .i64 1] 3)) 3 b w.heap.size 5 fun _ => 1 :=
  ⟨rfl, .inr ⟨w.heap.size, 5, _, rfl, hb, heap_alloc_new w _, Nat.le_refl _, by unfold maxLen; omega, rfl, rfl⟩⟩

set_option maxRecDepth 100000 in
set_option maxHeartbeats 16000000 in
theorem coListed_any (A : Option Addr) (cap before : Nat) (LL : List ByteArray) (w : World) (hok : OkLs LL) (h : StrSl w A LL) :
    Calls Try.prog 45 #[.slice A LL.length cap, .int .u8 (before : Int)] w fun e w' => e = .returned (.int .i64 (sW (lettB LL) LL.length LL.length before)) ∧ Below w.heap.size w w' := by
  obtain ⟨i0, hi, hz0, hz1, hz2⟩ := info_parts info_int
  have h1 := hok.n1
  have h20 := hok.n20
  obtain ⟨sg, so, rfl, hsg, hsc⟩ := h.some (by omega)
  have HSC := Lib.hid hsc
  have HLT := Lib.hid hok.let_
  have hc0 := hsc 0 (by omega)
  rw [Nat.add_zero] at hc0
  obtain ⟨n, hn⟩ : ∃ n, n = LL.length := ⟨_, rfl⟩
  have HN := Lib.hid hn
  have hbl := hok.bl
  have HB : Hid (∀ d, d ≤ 20 → ∀ z, 0 ≤ sW (lettB LL) n d z ∧ sW (lettB LL) n d z ≤ 95367431640625) := Lib.hid fun d hd z => ⟨sW_nn _ _ _ _, Int.le_trans (sW_le hbl n d z) (by
    have h1 : (5 : Int) ^ 20 = 95367431640625 := by decide
    have h2 : (5 : Nat) ^ d ≤ 5 ^ 20 := Nat.pow_le_pow_right (by decide) hd
    have h3 : ((5 ^ d : Nat) : Int) ≤ ((5 ^ 20 : Nat) : Int) := Int.ofNat_le.2 h2
    rw [Int.natCast_pow, Int.natCast_pow] at h3
    exact Int.le_trans h3 (by decide))⟩
  have HNX : Hid (∀ d p (hp : p < LL.length), n - 1 - d = p → ∀ t, sW (lettB LL) n (d + 1) t = prW (fun z => sW (lettB LL) n d z) LL[p] t LL[p].size) := Lib.hid fun d p hp hd t => by
    rw [sW_succ, prW_end, hd, lettB_at hp]
  have HL0 : LL.length = n := hn.symm
  rw [HL0] at h1 h20 ⊢
  have wn1 : IntKind.i64.wrap ((n : Int) - 1) = (n : Int) - 1 := by rw [IntKind.wrap_i64]; omega
  clear h hsc hok hn hbl
  obtain ⟨w1, hw1⟩ : ∃ w1, w1 = w.alloc (.cells #[.int .i64 1, .int .i64 1, .int .i64 1, .int .i64 1, .int .i64 1] 3) := ⟨_, rfl⟩
  have HW0 : Hid (RowIs w1 3 w.heap.size w.heap.size 5 fun b => sW (lettB LL) n 0 (97 + b)) := Lib.hid (by rw [hw1]; exact own_five w (Nat.le_refl _))
  have HB0 : Hid (Below w.heap.size w w1) := Lib.hid (by rw [hw1]; exact below_new w _)
  go_enter Try.func45, Try.ntmps45
  go_wp2
  rw [← hw1]
  clear hw1
  go_loopw [5, 6] (fun u v wr => ∃ p g : Nat, p < n ∧ v = .int .i64 (p : Int) ∧ u = .slice (some ⟨g, 0, none⟩) 5 5 ∧ RowIs wr 3 w.heap.size g 5 (fun b => sW (lettB LL) n (n - 1 - p) (97 + b)) ∧ Below w.heap.size w wr) (fun _ v _ => (intOf v).toNat)
  case atStart => exact ⟨n - 1, w.heap.size, by omega, by congr 1; omega, rfl, by rw [Nat.sub_self]; exact HW0.out, HB0.out⟩
  case round =>
    clear HW0 HB0
    obtain ⟨p, g, hp, rfl, rfl, hrow, hb⟩ := hrel
    have HRO := Lib.hid hrow
    have HBL := Lib.hid hb
    clear hrow hb
    have ip0 : (0 : Int) ≤ (p : Int) := by omega
    have ip1 : (p : Int) < (n : Int) := by omega
    by_cases hp0 : 0 < p
    · have hpl : p < LL.length := by omega
      obtain ⟨d, hd⟩ : ∃ d, d = n - 1 - p := ⟨_, rfl⟩
      rw [← hd] at HRO
      have HLP := Lib.hid (HLT.out p hpl)
      have HNP := Lib.hid (HNX.out d p hpl (by omega))
      have HBD := Lib.hid (HB.out d (by omega))
      have hcell := HSC.out p hpl
      obtain ⟨s, hs⟩ : ∃ s, s = LL[p] := ⟨_, rfl⟩
      rw [← hs] at HLP HNP hcell
      have HCL := Lib.hid hcell
      have hs5 := HLP.out.n5
      have HGL := Lib.hid HRO.out.lt
      clear hs hcell
      obtain ⟨G, hG⟩ : ∃ G : Nat → Int, G = fun z => sW (lettB LL) n d z := ⟨_, rfl⟩
      have HRG : Hid (RowIs wr 3 w.heap.size g 5 fun b => G (97 + b)) := Lib.hid (by rw [hG]; exact HRO.out)
      rw [← hG] at HNP
      have HGB : Hid (∀ z, 0 ≤ G z ∧ G z ≤ 95367431640625) := Lib.hid (by rw [hG]; exact HBD.out)
      clear HRO hG HBD
      go_wp2_with (at_make; refine wpList_make_full _ rfl (.const (.int .i64 5)) (.const (.int .i64 5)) _ rfl w.heap.size 3 i0 _ 1 Try.underlying58 hi hz0 hz1 .i64 .i64 _ _ 5 rfl rfl rfl rfl (by rw [hz2]; omega) (by unfold maxLen; omega) HBL.out.size ?_; intro w2 hown hgrow)
      have hgw := HGL.out
      obtain ⟨gn, hgn⟩ : ∃ gn, gn = wr.heap.size := ⟨_, rfl⟩
      rw [← hgn] at hown hgw ⊢
      have hgg : g ≠ gn := by omega
      have hgb : w.heap.size ≤ gn := by have := HBL.out.size; omega
      have hsgn : sg ≠ gn := by omega
      have HN0 : Hid (RowIs w2 3 w.heap.size gn 5 (lsN G s 0)) := Lib.hid ((RowIs.made hown).congr fun b _ => by unfold lsN; rw [if_neg (by omega)])
      have hb1 := grown_none' hgrow
      have HG0 := Lib.hid (HRG.out.below hb1)
      have HB1 := Lib.hid (below_next HBL.out hb1)
      clear hown hgrow hb1 hgn HRG HBL
      go_wp2
      go_loopw [24] (fun v wr => ∃ a : Nat, a ≤ 5 ∧ v = .int .i64 (a : Int) ∧ RowIs wr 3 w.heap.size gn 5 (lsN G s a) ∧ RowIs wr 3 w.heap.size g 5 (fun b => G (97 + b)) ∧ Below w.heap.size w wr) (fun v _ => 5 - (intOf v).toNat)
      case atStart => exact ⟨0, Nat.zero_le _, rfl, HN0.out, HG0.out, HB1.out⟩
      case round =>
        clear HN0 HG0 HB1
        obtain ⟨a, ha, rfl, hrn, hrx, hbx⟩ := hrel
        have HRN0 := Lib.hid hrn
        have HRX0 := Lib.hid hrx
        have HBX0 := Lib.hid hbx
        clear hrn hrx hbx
        by_cases hat2 : a < 5
        · have HS1 : Hid (RowIs wr 3 w.heap.size gn 5 (lsA G s a 0)) := Lib.hid (HRN0.out.congr fun z _ => lsN_first z)
          clear HRN0
          go_wp2
          go_loopw [9] (fun v wr => ∃ k : Nat, k ≤ s.size ∧ v = .int .i64 (k : Int) ∧ RowIs wr 3 w.heap.size gn 5 (lsA G s a k) ∧ RowIs wr 3 w.heap.size g 5 (fun b => G (97 + b)) ∧ Below w.heap.size w wr) (fun v _ => s.size - (intOf v).toNat)
          case atStart => exact ⟨0, Nat.zero_le _, rfl, HS1.out, HRX0.out, HBX0.out⟩
          case round =>
            clear HS1 HRX0 HBX0
            obtain ⟨k, hk, rfl, hrn, hrx, hbx⟩ := hrel
            have HRN := Lib.hid hrn
            have HRX := Lib.hid hrx
            have HBX := Lib.hid hbx
            clear hrn hrx hbx
            have cs := ((bcell HBX.out).1 sg _ hsg).trans HCL.out
            by_cases hks : k < s.size
            · obtain ⟨hb0, hb1⟩ := HLP.out.bd k hks
              obtain ⟨q, hq⟩ : ∃ q : Nat, s[k].toNat = 97 + q := ⟨s[k].toNat - 97, by omega⟩
              have HPS : Hid (prW G s (97 + a) (k + 1) = prW G s (97 + a) k + (if q = a then 0 else G (97 + q))) := Lib.hid (by
                rw [prW_succ hks, hq]
                by_cases e : q = a
                · rw [if_pos e, if_pos (by omega)]
                · rw [if_neg e, if_neg (by omega)])
              have w8 : IntKind.u8.wrap ((s[k].toNat : Int) - 97) = (q : Int) := by rw [hq, IntKind.wrap_u8]; omega
              have hq4 : q < 5 := by omega
              have w64 : IntKind.i64.wrap (q : Int) = (q : Int) := by rw [IntKind.wrap_i64]; omega
              have ik0 : (0 : Int) ≤ (k : Int) := by omega
              have ik1 : (k : Int) < (s.size : Int) := by omega
              clear hb0 hb1 hq
              by_cases hqa : q = a
              · have hne : ((a : Int) != (q : Int)) = false := by rw [hqa]; simp
                have HNN : Hid (RowIs wr 3 w.heap.size gn 5 (lsA G s a (k + 1))) := Lib.hid (HRN.out.congr fun z _ => lsA_same (by rw [HPS.out, if_pos hqa]; omega) z)
                clear hqa HRN
                go_wp2
                go_roundw
                case rel => exact ⟨k + 1, by omega, by go_num, HNN.out, HRX.out, HBX.out⟩
                case measure => simp [intOf]; omega
              · have hne : ((a : Int) != (q : Int)) = true := by rw [bne_iff_ne]; omega
                have x1 := HRN.out.cell a hat2
                have y1 := HRX.out.cell q hq4
                have fz := HRN.out.frozen a
                rw [lsA_at] at x1
                have bx := prW_bd HGB.out HLP.out.n5 (97 + a) k
                have by_ := HGB.out (97 + q)
                have HST : Hid (∀ r, RowIs ((wr.drewN r).setCell ⟨gn, a, none⟩ (.int .i64 (prW G s (97 + a) k + G (97 + q)))) 3 w.heap.size gn 5 (lsA G s a (k + 1)) ∧ RowIs ((wr.drewN r).setCell ⟨gn, a, none⟩ (.int .i64 (prW G s (97 + a) k + G (97 + q)))) 3 w.heap.size g 5 (fun b => G (97 + b)) ∧ Below w.heap.size w ((wr.drewN r).setCell ⟨gn, a, none⟩ (.int .i64 (prW G s (97 + a) k + G (97 + q))))) := Lib.hid fun r => ⟨((HRN.out.drewN r).store a _).congr fun z _ => lsA_put (by rw [HPS.out, if_neg hqa]) z, (HRX.out.drewN r).far hgg a _, below_store (below_drewN HBX.out r) hgb a _⟩
                obtain ⟨x, hx⟩ : ∃ x, x = prW G s (97 + a) k := ⟨_, rfl⟩
                obtain ⟨y, hy⟩ : ∃ y, y = G (97 + q) := ⟨_, rfl⟩
                rw [← hx] at x1 bx HST
                rw [← hy] at y1 by_ HST
                have wxy : IntKind.i64.wrap (x + y) = x + y := by rw [IntKind.wrap_i64]; omega
                have ia0 : (0 : Int) ≤ (a : Int) := by omega
                have ia1 : (a : Int) < 5 := by omega
                have iq0 : (0 : Int) ≤ (q : Int) := by omega
                have iq1 : (q : Int) < 5 := by omega
                clear hqa hx hy HPS
                go_wp2
                go_region
                all_goals
                  go_wp2
                  go_roundw
                  case rel => exact ⟨k + 1, by omega, by go_num, (HST.out 1).1, (HST.out 1).2.1, (HST.out 1).2.2⟩
                  case measure => simp [intOf]; omega
            · obtain rfl : k = s.size := by omega
              have HNE := Lib.hid (HRN.out.congr (G := lsN G s (a + 1)) fun z _ => lsA_end z)
              clear HRN
              go_wp2
              go_roundw
              case rel => exact ⟨a + 1, by omega, by go_num, HNE.out, HRX.out, HBX.out⟩
              case measure => simp [intOf]; omega
        · have hnat : ¬ (a : Int) < 5 := by omega
          have HNW : Hid (RowIs wr 3 w.heap.size gn 5 (fun b => sW (lettB LL) n (n - 1 - (p - 1)) (97 + b))) := Lib.hid (HRN0.out.congr fun z hz => by
            unfold lsN
            rw [if_pos (by omega), ← HNP.out, show n - 1 - (p - 1) = d + 1 by omega])
          have wp1 : IntKind.i64.wrap ((p : Int) - 1) = (p : Int) - 1 := by rw [IntKind.wrap_i64]; omega
          clear HRN0
          go_wp2
          go_roundw
          case rel => exact ⟨p - 1, gn, by omega, by congr 1; omega, rfl, HNW.out, HBX0.out⟩
          case measure => simp [intOf]; omega
    · obtain rfl : p = 0 := by omega
      have hpl : 0 < LL.length := by omega
      rw [Nat.sub_zero] at HRO
      obtain ⟨d, hd⟩ : ∃ d, d = n - 1 := ⟨_, rfl⟩
      rw [← hd] at HRO
      have HLP := Lib.hid (HLT.out 0 hpl)
      have HNP := Lib.hid (HNX.out d 0 hpl (by omega) before)
      rw [show d + 1 = n by omega] at HNP
      have HBD := Lib.hid (HB.out d (by omega))
      have hcell := HSC.out 0 hpl
      rw [Nat.add_zero] at hcell
      obtain ⟨s, hs⟩ : ∃ s, s = LL[0] := ⟨_, rfl⟩
      rw [← hs] at HLP HNP hcell
      have cs := ((bcell HBL.out).1 sg _ hsg).trans hcell
      have hs5 := HLP.out.n5
      clear hs hcell hc0
      obtain ⟨G, hG⟩ : ∃ G : Nat → Int, G = fun z => sW (lettB LL) n d z := ⟨_, rfl⟩
      have HRG : Hid (RowIs wr 3 w.heap.size g 5 fun b => G (97 + b)) := Lib.hid (by rw [hG]; exact HRO.out)
      rw [← hG] at HNP
      have HGB : Hid (∀ z, 0 ≤ G z ∧ G z ≤ 95367431640625) := Lib.hid (by rw [hG]; exact HBD.out)
      have hnz : ((n : Int) == 0) = false := by rw [beq_eq_false_iff_ne]; omega
      have hn0 : (0 : Int) < (n : Int) := by omega
      clear HRO hG HBD hd
      go_wp2
      go_loopw [11, 12] (fun u v wy => ∃ k : Nat, k ≤ s.size ∧ v = .int .i64 (k : Int) ∧ u = .int .i64 (prW G s before k) ∧ wy = wr) (fun _ v _ => s.size - (intOf v).toNat)
      case atStart => exact ⟨0, Nat.zero_le _, rfl, by rw [prW_zero], rfl⟩
      case round =>
        obtain ⟨k, hk, rfl, rfl, rfl⟩ := hrel
        by_cases hks : k < s.size
        · obtain ⟨hb0, hb1⟩ := HLP.out.bd k hks
          obtain ⟨q, hq⟩ : ∃ q : Nat, s[k].toNat = 97 + q := ⟨s[k].toNat - 97, by omega⟩
          have HPS : Hid (prW G s before (k + 1) = prW G s before k + (if 97 + q = before then 0 else G (97 + q))) := Lib.hid (by rw [prW_succ hks, hq])
          have w8 : IntKind.u8.wrap ((s[k].toNat : Int) - 97) = (q : Int) := by rw [hq, IntKind.wrap_u8]; omega
          have hq4 : q < 5 := by omega
          have ik0 : (0 : Int) ≤ (k : Int) := by omega
          have ik1 : (k : Int) < (s.size : Int) := by omega
          have y1 := HRG.out.cell q hq4
          have by_ := HGB.out (97 + q)
          have bx := prW_bd HGB.out HLP.out.n5 before k
          have iq0 : (0 : Int) ≤ (q : Int) := by omega
          have iq1 : (q : Int) < 5 := by omega
          have hbq : ((s[k].toNat : Int) != (before : Int)) = !decide (97 + q = before) := by
            rw [hq]
            by_cases e : 97 + q = before
            · rw [decide_eq_true e, ← e]; simp
            · rw [decide_eq_false e]; show _ = true; rw [bne_iff_ne]; omega
          by_cases e : 97 + q = before
          · have hne : ((s[k].toNat : Int) != (before : Int)) = false := by rw [hbq, decide_eq_true e]; rfl
            have HP2 : Hid (prW G s before k = prW G s before (k + 1)) := Lib.hid (by rw [HPS.out, if_pos e]; omega)
            clear e hbq hb0 hb1 hq HPS
            go_wp2
            go_roundw
            case rel => exact ⟨k + 1, by omega, by go_num, by rw [HP2.out], trivial⟩
            case measure => simp [intOf]; omega
          · have hne : ((s[k].toNat : Int) != (before : Int)) = true := by rw [hbq, decide_eq_false e]; rfl
            have HP2 : Hid (prW G s before k + G (97 + q) = prW G s before (k + 1)) := Lib.hid (by rw [HPS.out, if_neg e])
            obtain ⟨x, hx⟩ : ∃ x, x = prW G s before k := ⟨_, rfl⟩
            obtain ⟨y, hy⟩ : ∃ y, y = G (97 + q) := ⟨_, rfl⟩
            rw [← hx] at bx HP2 ⊢
            rw [← hy] at y1 by_ HP2
            have wxy : IntKind.i64.wrap (x + y) = x + y := by rw [IntKind.wrap_i64]; omega
            clear e hbq hb0 hb1 hq HPS hx hy
            go_wp2
            go_roundw
            case rel => exact ⟨k + 1, by omega, by go_num, by rw [HP2.out], trivial⟩
            case measure => simp [intOf]; omega
        · obtain rfl : k = s.size := by omega
          go_wp2
          go_ret
          exact ⟨ret_int HNP.out.symm, HBL.out⟩
end Go.Proofs.Yteefkgnojdgehaa
