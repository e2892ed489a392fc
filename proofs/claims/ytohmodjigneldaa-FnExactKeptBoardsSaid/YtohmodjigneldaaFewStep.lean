/- 'spec.stStep': the model's first stroke that saves one. No condition but the texts' lengths. -/
import Derived.Test.YtohmodjigneldaaFewPick
namespace Go.Proofs.Ytohmodjigneldaa
open Go.RowKit

theorem str_abc (k : Nat) (h : k < 5) : (⟨#[97, 98, 99, 100, 101]⟩ : ByteArray).extract k (k + 1) = ⟨#[letB k]⟩ := by
  have g : ∀ k : Fin 5, (⟨#[97, 98, 99, 100, 101]⟩ : ByteArray).extract k.val (k.val + 1) = ⟨#[letB k.val]⟩ := by decide +kernel
  exact g ⟨k, h⟩
theorem ovr_paint {s t : ByteArray} {f l k : Nat} (h1 : f ≤ l) (h2 : l < s.size) (hk : k < 5) (hl : Tx.leadsF (Tx.cB t) (Tx.cB s) t.size) (hb : Tx.noBare (Tx.cB t) f (l + 1)) : Tx.ovr (Tx.cB t) (Tx.cB (paintS s f l ⟨#[letB k]⟩)) t.size = (Tx.fpN (Tx.cB t) (Tx.pnt (Tx.cB s) f l (97 + k)) t.size : Int) := by
  rw [Tx.ovr_yes (leads_paint h1 h2 hk hl hb), ← fpN_paint h1 h2 hk]
  rfl
/-- the zero stroke's cells -/
def zero3 (w : World) : World := w.alloc (.cells #[.int .i64 0, .int .i64 0, .string ⟨#[]⟩] 45)
theorem cells3 (w : World) (a b : Int) (c : ByteArray) (t : TypeId) : (w.alloc (.cells #[.int .i64 a, .int .i64 b, .string c] t)).cell? ⟨w.heap.size, 0, none⟩ = some (.int .i64 a) ∧ (w.alloc (.cells #[.int .i64 a, .int .i64 b, .string c] t)).cell? ⟨w.heap.size, 1, none⟩ = some (.int .i64 b) ∧ (w.alloc (.cells #[.int .i64 a, .int .i64 b, .string c] t)).cell? ⟨w.heap.size, 2, none⟩ = some (.string c) := by
  refine ⟨?_, ?_, ?_⟩ <;> simp
theorem kept3 {w W : World} (h : Below (zero3 w).heap.size (zero3 w) W) : (W.cell? ⟨w.heap.size, 0, none⟩ = some (.int .i64 0) ∧ W.cell? ⟨w.heap.size, 1, none⟩ = some (.int .i64 0) ∧ W.cell? ⟨w.heap.size, 2, none⟩ = some (.string ⟨#[]⟩)) ∧ (W.frozen? ⟨w.heap.size, 0, none⟩ = false ∧ W.frozen? ⟨w.heap.size, 1, none⟩ = false ∧ W.frozen? ⟨w.heap.size, 2, none⟩ = false) := by
  have c := cells3 w 0 0 ⟨#[]⟩ 45
  have f : ∀ k, (w.alloc (.cells #[.int .i64 0, .int .i64 0, .string ⟨#[]⟩] 45)).frozen? ⟨w.heap.size, k, none⟩ = false := fun k => by simp
  have lt : w.heap.size < (zero3 w).heap.size := by unfold zero3; simp
  refine ⟨⟨?_, ?_, ?_⟩, ?_, ?_, ?_⟩
  · rw [(bcell h).1 _ 0 lt]; exact c.1
  · rw [(bcell h).1 _ 1 lt]; exact c.2.1
  · rw [(bcell h).1 _ 2 lt]; exact c.2.2
  · rw [(bcell h).2 _ 0 lt]; exact f 0
  · rw [(bcell h).2 _ 1 lt]; exact f 1
  · rw [(bcell h).2 _ 2 lt]; exact f 2
theorem zero3_size (w : World) : (zero3 w).heap.size = w.heap.size + 1 := by unfold zero3; simp
theorem fbelow_nextN {B : Nat} {w w1 w2 : World} (h1 : Below B w w1) (hB : B ≤ w1.heap.size) (h2 : Below w1.heap.size w1 w2) : Below B w w2 := h1.trans (h2.mono hB)
theorem fbelow_box {B : Nat} {a w w1 : World} {o : Obj} (h : Below B a w) (hB : B ≤ w.heap.size) (h1 : Below (w.alloc o).heap.size (w.alloc o) w1) : Below B a w1 := fbelow_nextN h hB (below_box h1)
theorem box_kept {w w1 : World} {a b : Int} {c : ByteArray} {t : TypeId} (h : Below (w.alloc (.cells #[.int .i64 a, .int .i64 b, .string c] t)).heap.size (w.alloc (.cells #[.int .i64 a, .int .i64 b, .string c] t)) w1) : w1.cell? ⟨w.heap.size, 0, none⟩ = some (.int .i64 a) ∧ w1.cell? ⟨w.heap.size, 1, none⟩ = some (.int .i64 b) ∧ w1.cell? ⟨w.heap.size, 2, none⟩ = some (.string c) := by
  have k := cells3 w a b c t
  have lt : w.heap.size < (w.alloc (.cells #[.int .i64 a, .int .i64 b, .string c] t)).heap.size := by simp
  exact ⟨((bcell h).1 _ 0 lt).trans k.1, ((bcell h).1 _ 1 lt).trans k.2.1, ((bcell h).1 _ 2 lt).trans k.2.2⟩
theorem box_next {w1 w2 : World} {g : Nat} {a b : Int} {c : ByteArray} (k : w1.cell? ⟨g, 0, none⟩ = some (.int .i64 a) ∧ w1.cell? ⟨g, 1, none⟩ = some (.int .i64 b) ∧ w1.cell? ⟨g, 2, none⟩ = some (.string c)) (h : Below w1.heap.size w1 w2) (lt : g + 1 ≤ w1.heap.size) : w2.cell? ⟨g, 0, none⟩ = some (.int .i64 a) ∧ w2.cell? ⟨g, 1, none⟩ = some (.int .i64 b) ∧ w2.cell? ⟨g, 2, none⟩ = some (.string c) :=
  ⟨((bcell h).1 _ 0 lt).trans k.1, ((bcell h).1 _ 1 lt).trans k.2.1, ((bcell h).1 _ 2 lt).trans k.2.2⟩
theorem below3 {w W : World} (h : Below (zero3 w).heap.size (zero3 w) W) : Below w.heap.size w W := below_next (below_new w _) h
theorem bare_step {c : Nat → Nat} {f l : Nat} (h : Tx.noBare c f l) (hl : c l ≠ 46) : Tx.noBare c f (l + 1) := fun i i1 i2 => by
  by_cases e : i = l
  · subst e; exact hl
  · exact h i i1 (by omega)

set_option maxRecDepth 100000 in
set_option maxHeartbeats 8000000 in
theorem stStep_any (s t : ByteArray) (F L K : Nat) (w : World) (h1 : 1 ≤ t.size) (h20 : t.size ≤ 20) (hst : s.size = t.size) (ha : ∀ k (hk : k < t.size), t[k].toNat < 128) (hl : Tx.leadsF (Tx.cB t) (Tx.cB s) t.size) (hp : Pick (Tx.cB t) (Tx.cB s) t.size F L K) :
    Calls Try.prog 42 #[.string s, .string t, .int .i64 (Tx.fpN (Tx.cB t) (Tx.cB s) t.size : Int)] w fun e w' => e = .returned (.tuple #[.agg #[.int .i64 F, .int .i64 L, .string ⟨#[letB K]⟩], .string (paintS s F L ⟨#[letB K]⟩)]) ∧ Below w.heap.size w w' := by
  have hPL := hp.fl
  have hPN := hp.ln
  have hPK := hp.k5
  have HF : Hid (Tx.fpN (Tx.cB t) (Tx.cB s) t.size ≤ 20) := Lib.hid (Tx.fp_20 _ _ _ _)
  have HS : Hid (∀ f l k, f ≤ l → l < t.size → k < 5 → ∀ W, Calls Try.prog 50 #[.string s, .agg #[.int .i64 (f : Int), .int .i64 (l : Int), .string ⟨#[letB k]⟩]] W fun e w' => e = .returned (.string (paintS s f l ⟨#[letB k]⟩)) ∧ Below W.heap.size W w') := Lib.hid fun f l k q1 q2 q3 W => stPaint_any s f l ⟨#[letB k]⟩ W (by omega) (Nat.le_refl 1) q1 (by omega)
  have HO : Hid (∀ f l k, f ≤ l → l < t.size → k < 5 → Tx.noBare (Tx.cB t) f (l + 1) → ∀ W, Calls Try.prog 22 #[.string (paintS s f l ⟨#[letB k]⟩), .string t] W fun e w' => e = .returned (.int .i64 (Tx.fpN (Tx.cB t) (Tx.pnt (Tx.cB s) f l (97 + k)) t.size : Int)) ∧ Below W.heap.size W w') := Lib.hid fun f l k q1 q2 q3 q4 W => by
    have := Tx.stOver_any (paintS s f l ⟨#[letB k]⟩) t W h1 h20 (by rw [paintS_size1 q1 (by omega), hst]) ha
    rw [ovr_paint q1 (by omega) q3 hl q4] at this
    exact this
  have HB20 : Hid (∀ f l k, Tx.fpN (Tx.cB t) (Tx.pnt (Tx.cB s) f l (97 + k)) t.size ≤ 20) := Lib.hid fun f l k => Tx.fp_20 _ _ _ _
  have HP := Lib.hid hp
  have HAB := Lib.hid str_abc
  obtain ⟨few, hfew⟩ : ∃ x, x = Tx.fpN (Tx.cB t) (Tx.cB s) t.size := ⟨_, rfl⟩
  have HFEW := Lib.hid hfew
  have hf20 := HF.out
  rw [← hfew] at hf20 ⊢
  have wfew : IntKind.i64.wrap ((few : Int) - 1) = (few : Int) - 1 := by rw [IntKind.wrap_i64]; omega
  clear ha hl hp hfew HF hst
  go_enter Try.func42, Try.ntmps42
  go_wp2
  rw [show w.alloc (.cells #[.int .i64 0, .int .i64 0, .string ⟨#[]⟩] 45) = zero3 w from rfl]
  go_loopw [8] (fun v wr => ∃ f : Nat, f ≤ F ∧ v = .int .i64 (f : Int) ∧ Below (zero3 w).heap.size (zero3 w) wr) (fun v _ => t.size - (intOf v).toNat)
  case atStart => exact ⟨0, Nat.zero_le _, rfl, Below.refl _ _⟩
  case round =>
    obtain ⟨f, hf, rfl, hb⟩ := hrel
    have HB := Lib.hid hb
    clear hb
    have hfn : f < t.size := by omega
    go_wp2
    go_loopw [9] (fun v wr => ∃ l : Nat, f ≤ l ∧ l ≤ t.size ∧ v = .int .i64 (l : Int) ∧ Hid (Tx.noBare (Tx.cB t) f l ∧ (f = F → l ≤ L)) ∧ Below (zero3 w).heap.size (zero3 w) wr) (fun v _ => t.size - (intOf v).toNat)
    case atStart => exact ⟨f, Nat.le_refl _, by omega, rfl, Lib.hid ⟨fun i i1 i2 => absurd i1 (by omega), fun e => by omega⟩, HB.out⟩
    case round =>
      clear HB
      obtain ⟨l, hfl, hlt, rfl, HI, hb⟩ := hrel
      have HB := Lib.hid hb
      clear hb
      have il0 : (0 : Int) ≤ (l : Int) := by omega
      by_cases hln : l < t.size
      · have ce : t[l].toNat = Tx.cB t l := (Tx.cB_at t l hln).symm
        by_cases hc : Tx.cB t l = 46
        · have hq : ((t[l].toNat : Int) != 46) = false := by rw [ce, hc]; rfl
          have HN := Lib.hid (HP.out.fNext (l := l) hf hfl HI.out.2 (.inr hc))
          clear hc ce
          go_wp2
          go_roundw
          case rel => exact ⟨f + 1, HN.out, by go_num, HB.out⟩
          case measure => simp [intOf]; omega
        · have hq : ((t[l].toNat : Int) != 46) = true := by rw [ce, bne_iff_ne]; omega
          have HNB := Lib.hid (bare_step HI.out.1 hc)
          clear hc ce
          go_wp2
          go_loopw [10] (fun v wr => ∃ k : Nat, k ≤ 5 ∧ v = .int .i64 (k : Int) ∧ Hid (f = F → l = L → k ≤ K) ∧ Below (zero3 w).heap.size (zero3 w) wr) (fun v _ => 5 - (intOf v).toNat)
          case atStart => exact ⟨0, by omega, rfl, Lib.hid fun _ _ => Nat.zero_le _, HB.out⟩
          case round =>
            clear HB
            obtain ⟨k, hk, rfl, HK, hb⟩ := hrel
            have HB := Lib.hid hb
            clear hb
            by_cases hk5 : k < 5
            · have he := HAB.out k hk5
              have HPA := Lib.hid (HS.out f l k hfl hln hk5)
              have HOV := Lib.hid (HO.out f l k hfl hln hk5 HNB.out)
              have hx20 := HB20.out f l k
              have HONE := Lib.hid (HP.out.only hf HI.out.2 HK.out hfl hln HNB.out hk5)
              have HNXT := Lib.hid (HP.out.kNext (f := f) (l := l) (k := k) HK.out)
              rw [← HFEW.out] at HONE HNXT
              obtain ⟨x, hx⟩ : ∃ x, x = Tx.fpN (Tx.cB t) (Tx.pnt (Tx.cB s) f l (97 + k)) t.size := ⟨_, rfl⟩
              rw [← hx] at HOV hx20 HONE HNXT
              obtain ⟨T, hT⟩ : ∃ T, T = paintS s f l ⟨#[letB k]⟩ := ⟨_, rfl⟩
              rw [← hT] at HPA HOV
              have HTT := Lib.hid hT
              have wk : IntKind.i64.wrap ((k : Int) + 1) = (k : Int) + 1 := by rw [IntKind.wrap_i64]; omega
              clear hx hT
              by_cases hh : x + 1 = few
              · have hq2 : ((x : Int) == (few : Int) - 1) = true := by rw [beq_iff_eq]; omega
                obtain ⟨rfl, rfl, rfl⟩ := HONE.out hh
                clear hh
                go_wp2_with fail
                refine (HPA.out _).mono ?_
                rintro e w1 ⟨rfl, hb1⟩
                have HB1 := Lib.hid (fbelow_box HB.out HB.out.size hb1)
                have HC1 := Lib.hid (box_kept hb1)
                have hg1 : wr.heap.size + 1 ≤ w1.heap.size := by have := hb1.size; simpa using this
                clear hb1
                go_wp2_with fail
                refine (HOV.out _).mono ?_
                rintro e w2 ⟨rfl, hb2⟩
                have HB2 := Lib.hid (fbelow_nextN HB1.out HB1.out.size hb2)
                obtain ⟨⟨k0, k1, k2⟩, f0, f1, f2⟩ := kept3 HB2.out
                obtain ⟨d0, d1, d2⟩ := box_next HC1.out hb2 hg1
                have hap := HB.out.size
                have hbp : w.heap.size < wr.heap.size := by have := zero3_size w; omega
                have hne : wr.heap.size ≠ w.heap.size := by omega
                have hne2 : w.heap.size ≠ wr.heap.size := by omega
                clear hb2 hg1 hap
                go_wp2
                refine bodyPost_ret (v := .tuple #[.agg #[.int .i64 f, .int .i64 l, .string ⟨#[letB k]⟩], .string T]) ?_ rfl ⟨by rw [HTT.out], ?_⟩
                · rw [results_cell_tmp rfl]; go_simp
                · exact ((((below3 HB2.out).setCell (Nat.le_refl _) _).setCell (Nat.le_refl _) _).setCell (Nat.le_refl _) _)
              · have hq2 : ((x : Int) == (few : Int) - 1) = false := by rw [beq_eq_false_iff_ne]; omega
                have HN := Lib.hid (HNXT.out hh)
                clear hh
                go_wp2_with fail
                refine (HPA.out _).mono ?_
                rintro e w1 ⟨rfl, hb1⟩
                have HB1 := Lib.hid (fbelow_box HB.out HB.out.size hb1)
                clear hb1
                go_wp2_with fail
                refine (HOV.out _).mono ?_
                rintro e w2 ⟨rfl, hb2⟩
                have HB2 := Lib.hid (fbelow_nextN HB1.out HB1.out.size hb2)
                clear hb2
                go_wp2
                go_roundw
                case rel => exact ⟨k + 1, by omega, by go_num, HN, HB2.out⟩
                case measure => simp [intOf]; omega
            · obtain rfl : k = 5 := by omega
              have HN := Lib.hid (HP.out.lNext (f := f) (l := l) HI.out.2 HK.out)
              go_wp2
              go_roundw
              case rel => exact ⟨l + 1, by omega, by omega, by go_num, Lib.hid ⟨HNB.out, HN.out⟩, HB.out⟩
              case measure => simp [intOf]; omega
      · obtain rfl : l = t.size := by omega
        have HN := Lib.hid (HP.out.fNext (l := t.size) hf hfl HI.out.2 (.inl (Nat.le_refl _)))
        go_wp2
        go_roundw
        case rel => exact ⟨f + 1, HN.out, by go_num, HB.out⟩
        case measure => simp [intOf]; omega
end Go.Proofs.Ytohmodjigneldaa
