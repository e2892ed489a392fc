/- 'impl.freeTints': boards whose letters cost nothing. No condition but the lists' lengths. -/
import Derived.Test.YteefkgnojdgehaaCPlan
import Derived.Test.YteefkgnojdgehaaListSpec
import Derived.Lib.ConvBytes
import Derived.Deep.RegionHeld3
namespace Go.Proofs.Yteefkgnojdgehaa
open Go.RowKit

def frP (l : List Nat) (z : Nat) : Option Int := if z ∈ l then some 0 else none
theorem frP_zero (l : List Nat) (z : Nat) : frP (l.take 0) z = none := by unfold frP; rw [List.take_zero, if_neg (by simp)]
theorem frP_succ {l : List Nat} {k : Nat} (h : k < l.length) : frP (l.take (k + 1)) = updC (frP (l.take k)) l[k] 0 := by
  funext z
  show (if z ∈ l.take (k + 1) then some 0 else none) = if z = l[k] then some 0 else (if z ∈ l.take k then some 0 else none)
  rw [List.take_succ_eq_append_getElem h]
  by_cases e : z = l[k]
  · rw [if_pos e, if_pos (List.mem_append_right _ (by rw [e]; exact List.mem_singleton_self _))]
  · rw [if_neg e]
    by_cases e2 : z ∈ l.take k
    · rw [if_pos e2, if_pos (List.mem_append_left _ e2)]
    · rw [if_neg e2, if_neg (fun x => by
        rcases List.mem_append.1 x with x | x
        · exact e2 x
        · exact e (List.mem_singleton.1 x))]
theorem frP_all {l : List Nat} {k : Nat} (h : l.length ≤ k) : frP (l.take k) = fun z => if z ∈ l then some 0 else none := by
  funext z; unfold frP; rw [List.take_of_length_le h]
theorem below_bytes (W : World) (e : TypeId) (s : ByteArray) : Below W.heap.size W (Lib.bytesWorld W e s) :=
  ⟨rfl, rfl, rfl, by rw [Lib.bytesWorld_size]; omega, fun j hj => Lib.bytesWorld_at_old W e s j hj⟩
theorem bytes_cell (W : World) (e : TypeId) (s : ByteArray) (j : Nat) (h : j < s.size) : (Lib.bytesWorld W e s).cell? ⟨W.heap.size, j, none⟩ = some (.int .u8 (s[j].toNat : Int)) := by
  rw [Lib.bytesWorld_cell W e s j h, List.getD_eq_getElem?_getD, List.getElem?_eq_getElem (by simpa using h)]
  simp; rfl
set_option maxRecDepth 100000 in
set_option maxHeartbeats 8000000 in
theorem freeTints_any (A : Option Addr) (cap : Nat) (LL : List ByteArray) (w : World) (h1 : 1 ≤ LL.length) (h20 : LL.length ≤ 20) (h5 : ∀ j (hj : j < LL.length), LL[j].size ≤ 5) (h : StrSl w A LL) :
    Calls Try.prog 48 #[.slice A LL.length cap] w fun e w' => ∃ g m, e = .returned (.slice (some ⟨g, 0, none⟩) LL.length LL.length) ∧ Brds w' (some ⟨g, 0, none⟩) LL.length (zeroB (lettB LL)) m ∧ Below w.heap.size w w' := by
  obtain ⟨i0, hi, hz0, hz1, hz2⟩ := info_parts info_cst
  have hmm := @run_makeMap Try.prog
  have hcv := fun (W : World) (s : ByteArray) => Lib.run_convert_string_bytes (P := Try.prog) W 9 76 5 s (u := .string) Try.underlying9 Try.underlying76 Try.underlying5
  have H5 := Lib.hid h5
  obtain ⟨sg, so, rfl, hsg, hsc⟩ := h.some (by omega)
  have HSC := Lib.hid hsc
  obtain ⟨n, hn⟩ : ∃ n, n = LL.length := ⟨_, rfl⟩
  have HN := Lib.hid hn
  rw [← hn] at h1 h20 ⊢
  clear h h5 hsc hn
  go_enter Try.func48, Try.ntmps48
  go_wp2_with (at_make; refine wpList_make_full _ rfl (.tmp 9) (.tmp 9) _ rfl w.heap.size 85 i0 _ 1 Try.underlying50 hi hz0 hz1 .i64 .i64 _ _ n rfl rfl rfl rfl (by rw [hz2]; omega) (by unfold maxLen; omega) (Nat.le_refl _) ?_; intro w1 hown hgrow)
  have HP0 : Hid (CPlan w1 w.heap.size w.heap.size n 0 (zeroB (lettB LL)) (fun _ => 0)) := Lib.hid (cplan_start hown)
  have HB0 : Hid (Below w.heap.size w w1) := Lib.hid ((Below.refl w.heap.size w).grown hgrow (Nat.le_refl _) (fun k hk => by cases hk))
  obtain ⟨g, hg⟩ : ∃ g, g = w.heap.size := ⟨_, rfl⟩
  have hgb : w.heap.size ≤ g := by omega
  rw [← hg]
  rw [show CPlan w1 w.heap.size w.heap.size n 0 = CPlan w1 w.heap.size g n 0 from by rw [hg]] at HP0
  clear hown hgrow hg
  go_loopw [13] (fun v wr => ∃ (p : Nat) (m : Nat → Nat), p ≤ n ∧ v = .int .i64 (p : Int) ∧ CPlan wr w.heap.size g n p (zeroB (lettB LL)) m ∧ Below w.heap.size w wr) (fun v _ => n - (intOf v).toNat)
  case atStart => exact ⟨0, _, Nat.zero_le _, rfl, HP0.out, HB0.out⟩
  case round =>
    clear HP0 HB0
    obtain ⟨p, m, hp, rfl, hpl, hb⟩ := hrel
    have HPL := Lib.hid hpl
    have HB := Lib.hid hb
    clear hpl hb
    by_cases hlt : p < n
    · have ip0 : (0 : Int) ≤ (p : Int) := by omega
      have ip1 : (p : Int) < (n : Int) := by omega
      have hpl : p < LL.length := by rw [← HN.out]; exact hlt
      have hcell := HSC.out p hpl
      have hr5 := H5.out p hpl
      have HCB : Hid (zeroB (lettB LL) p = fun z => if z ∈ bytN LL[p] then some 0 else none) := Lib.hid (by funext z; unfold zeroB; rw [lettB_at hpl])
      obtain ⟨s, hs⟩ : ∃ s, s = LL[p] := ⟨_, rfl⟩
      rw [← hs] at hcell hr5 HCB
      have hcell1 := ((bcell HB.out).1 sg _ hsg).trans hcell
      obtain ⟨v0, hany⟩ := HPL.out.any p hlt
      have hfz := HPL.out.fz p
      have HIN := Lib.hid (cplan_in HPL.out HB.out hgb hlt)
      have HCM := Lib.hid (newMap_cst (wr := wr) (g := g) (p := p))
      have hgl := HPL.out.lt
      have hgne : g ≠ wr.heap.size := by omega
      have hcellW := ((bcell HIN.out.bl).1 sg _ hsg).trans hcell
      clear hs HPL hcell
      have hcs := hcv (newMap wr g p) s
      have hcs2 : (convert 9 76 (.string s)).run Try.prog ((wr.setCell ⟨g, p, none⟩ (.map (some wr.heap.size))).alloc (.map #[] 0)) = .ok (.slice (some ⟨((wr.setCell ⟨g, p, none⟩ (.map (some wr.heap.size))).alloc (.map #[] 0)).heap.size, 0, none⟩) s.size (grownCap (newMap wr g p) s.size 0 5)) (Lib.bytesWorld (newMap wr g p) 5 s) := hcs
      clear hcv
      go_wp2
      have HBY := Lib.hid (below_bytes (newMap wr g p) 5 s)
      have HIN1 := Lib.hid (HIN.out.kept (grown_of_below HBY.out none) (by simp) (by simp) (by simp))
      have HCM1 := Lib.hid (HCM.out.kept (grown_of_below HBY.out none) (by simp))
      have HCL := Lib.hid fun j hj => bytes_cell (newMap wr g p) 5 s j hj
      have hbz : (Lib.bytesWorld (newMap wr g p) 5 s).heap.size = (newMap wr g p).heap.size + 1 := Lib.bytesWorld_size _ _ _
      obtain ⟨bb, hbb⟩ : ∃ bb, bb = wr.heap.size + 1 := ⟨_, rfl⟩
      have hmb : wr.heap.size ≠ bb := by omega
      rw [newMap_size, ← hbb] at HCL hbz
      rw [← hbb]
      obtain ⟨W0, hW0⟩ : ∃ W, W = Lib.bytesWorld (newMap wr g p) 5 s := ⟨_, rfl⟩
      obtain ⟨mi, hmi⟩ : ∃ mi, mi = wr.heap.size := ⟨_, rfl⟩
      rw [← hW0] at HIN1 HCM1 HCL hbz ⊢
      rw [← hmi] at HIN1 HCM1 hmb
      have HCM0 : Hid (Cst W0 mi 0 (frP ((bytN s).take 0))) := Lib.hid (HCM1.out.congr fun z _ => (frP_zero (bytN s) z).symm)
      have hbl0 : bb < W0.heap.size := by omega
      clear HCM HIN HBY HCM1 hW0 hmi hcell1 hcellW hany hfz hgl hgne HB hcs hcs2 hbz hbb
      go_loopw [25] (fun v wx => ∃ k : Nat, k ≤ s.size ∧ v = .int .i64 (k : Int) ∧ Cst wx mi k (frP ((bytN s).take k)) ∧ CIn w wx g n p (zeroB (lettB LL)) m mi ∧ (∀ j (hj : j < s.size), wx.cell? ⟨bb, j, none⟩ = some (.int .u8 (s[j].toNat : Int))) ∧ bb < wx.heap.size) (fun v _ => s.size - (intOf v).toNat)
      case atStart => exact ⟨0, Nat.zero_le _, rfl, HCM0.out, HIN1.out, HCL.out, hbl0⟩
      case round =>
        clear HCM0 HIN1 HCL hbl0
        obtain ⟨k, hk, rfl, hcst, hin, hcl, hbl⟩ := hrel
        have HC := Lib.hid hcst
        have HI := Lib.hid hin
        have HCL := Lib.hid hcl
        clear hcst hin hcl
        by_cases hkl : k < s.size
        · have hv := HCL.out k hkl
          have ik0 : (0 : Int) ≤ (k : Int) := by omega
          have ik1 : (k : Int) < (s.size : Int) := by omega
          have HSU := Lib.hid (frP_succ (l := bytN s) (k := k) (by rw [bytN_len]; exact hkl))
          rw [bytN_at hkl] at HSU
          have hu8 : s[k].toNat < 256 := s[k].toNat_lt
          obtain ⟨q, hq⟩ : ∃ q : Nat, q = s[k].toNat := ⟨_, rfl⟩
          rw [← hq] at hv HSU hu8
          obtain ⟨w5, hrun, hc5, hg5⟩ := Cst.put_run (w := wr) HC.out (by unfold maxLen; omega) q hu8 0
          have hrun2 : (Instr.mapUpdate 85 (.map (some mi)) (.int .u8 (q : Int)) (.int .i64 0)).run Try.prog wr = .ok () w5 := hrun
          have HC5 : Hid (Cst w5 mi (k + 1) (frP ((bytN s).take (k + 1)))) := Lib.hid (by rw [HSU.out]; exact hc5)
          have HI5 := Lib.hid (HI.out.kept hg5 (by intro e; injection e with e; exact HI.out.hm.2.2 e) (fun j a e => by injection e with e; exact HI.out.ap j a e.symm) (fun z e => by injection e with e; have := HI.out.hm.1; omega))
          have HK5 : Hid ((∀ j (hj : j < s.size), w5.cell? ⟨bb, j, none⟩ = some (.int .u8 (s[j].toNat : Int))) ∧ bb < w5.heap.size) := Lib.hid ⟨fun j hj => by
            rw [World.cell?_of_block (hg5.block bb hbl (by intro e; injection e with e; exact hmb e.symm))]
            exact HCL.out j hj, Nat.lt_of_lt_of_le hbl hg5.size⟩
          have hcg := HI.out.ci
          have hcg5 := HI5.out.ci
          clear hq hrun hc5 hg5 HC HSU HCL
          go_wp2
          go_roundw
          case rel => exact ⟨k + 1, by omega, by go_num, HC5.out, HI5.out, HK5.out⟩
          case measure => simp [intOf]; omega
        · obtain rfl : k = s.size := by omega
          have HD := Lib.hid (cplan_done HI.out (kk := s.size) (by rw [HCB.out, ← frP_all (l := bytN s) (k := s.size) (by rw [bytN_len]; exact Nat.le_refl _)]; exact HC.out))
          have HB := Lib.hid HI.out.bl
          clear HC HI HCL
          go_wp2
          go_roundw
          case rel => exact ⟨p + 1, _, by omega, by go_num, HD.out, HB.out⟩
          case measure => simp [intOf]; omega
    · obtain rfl : p = n := by omega
      go_wp2
      go_ret
      exact ⟨g, m, rfl, HPL.out.brds, HB.out⟩
end Go.Proofs.Yteefkgnojdgehaa
