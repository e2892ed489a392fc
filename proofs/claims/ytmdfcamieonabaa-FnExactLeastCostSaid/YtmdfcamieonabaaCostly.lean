/- 'impl.costlyTints': a row of maps of costs. No condition but the lists' lengths. -/
import Derived.Test.YtmdfcamieonabaaCheapest
import Derived.Test.YtmdfcamieonabaaIntSS
namespace Go.Proofs.Ytmdfcamieonabaa
open Go.RowKit

/-- the first k costs of a board, by colour; all costs -/
def costP (R : List Int) (k z : Nat) : Option Int := if 97 ≤ z ∧ z < 97 + k then R[z - 97]? else none
def costB (LL : List (List Int)) (j z : Nat) : Option Int := costP (LL.getD j []) (LL.getD j []).length z
theorem costP_zero (R : List Int) (z : Nat) : costP R 0 z = none := by unfold costP; rw [if_neg (by omega)]
theorem costP_succ {R : List Int} {k : Nat} (h : k < R.length) : costP R (k + 1) = updC (costP R k) (97 + k) R[k] := by
  funext z
  show (if 97 ≤ z ∧ z < 97 + (k + 1) then R[z - 97]? else none) = if z = 97 + k then some R[k] else (if 97 ≤ z ∧ z < 97 + k then R[z - 97]? else none)
  by_cases e : z = 97 + k
  · subst e
    rw [if_pos (by omega), if_pos rfl, Nat.add_sub_cancel_left, List.getElem?_eq_getElem h]
  · rw [if_neg e]
    by_cases h2 : 97 ≤ z ∧ z < 97 + k
    · rw [if_pos (by omega), if_pos h2]
    · rw [if_neg (by omega), if_neg h2]
structure CPlan (w : World) (base g n i : Nat) (B : Nat → Nat → Option Int) (m : Nat → Nat) : Prop where
  cell : ∀ j, j < i → w.cell? ⟨g, j, none⟩ = some (.map (some (m j)))
  any : ∀ j, j < n → ∃ v, w.cell? ⟨g, j, none⟩ = some (.map v)
  fz : ∀ j, w.frozen? ⟨g, j, none⟩ = false
  cst : ∀ j, j < i → ∃ q, Cst w (m j) q (B j)
  ne : ∀ j, j < i → base ≤ m j ∧ m j ≠ g
  lt : g < w.heap.size
theorem CPlan.kept {w w' : World} {base g n i : Nat} {B : Nat → Nat → Option Int} {m : Nat → Nat} (h : CPlan w base g n i B m) {row : Option Nat} (hg : w.grownBy w' row) (h1 : row ≠ some g) (h2 : ∀ j, j < i → row ≠ some (m j)) : CPlan w' base g n i B m := by
  have hb : w'.heap[g]? = w.heap[g]? := hg.block g h.lt (fun e => h1 e.symm)
  have hc : ∀ j, w'.cell? ⟨g, j, none⟩ = w.cell? ⟨g, j, none⟩ := fun j => World.cell?_of_block hb
  have hf : ∀ j, w'.frozen? ⟨g, j, none⟩ = w.frozen? ⟨g, j, none⟩ := fun j => World.frozen?_of_block hb
  refine ⟨fun j a => by rw [hc]; exact h.cell j a, fun j a => by rw [hc]; exact h.any j a, fun j => by rw [hf]; exact h.fz j, fun j a => ?_, h.ne, Nat.lt_of_lt_of_le h.lt hg.size⟩
  obtain ⟨q, hq⟩ := h.cst j a
  exact ⟨q, hq.kept hg fun e => h2 j a e.symm⟩
theorem CPlan.brds {w : World} {base g n : Nat} {B : Nat → Nat → Option Int} {m : Nat → Nat} (h : CPlan w base g n n B m) : Brds w (some ⟨g, 0, none⟩) n B m :=
  ⟨fun _ => ⟨g, 0, rfl, h.lt, fun j hj => by rw [Nat.zero_add]; exact h.cell j hj⟩, h.cst⟩
theorem cplan_start {w1 : World} {g n : Nat} {B : Nat → Nat → Option Int} (h : w1.ownsRow g 86 1 (.slice (some ⟨g, 0, none⟩) n n) n (madeCells (Value.map none).cells (n * 1)).toList) : CPlan w1 g g n 0 B (fun _ => 0) := by
  have hl : (madeCells (Value.map none).cells (n * 1)).toList = List.replicate n (Value.map none) := by
    rw [Nat.mul_one, show (Value.map none).cells = #[Value.map none] from rfl, toList_madeCells_one]
  rw [hl] at h
  refine ⟨fun j a => absurd a (Nat.not_lt_zero _), fun j hj => ⟨none, ?_⟩, fun j => World.ownsRow.frozenAt h j, fun j a => absurd a (Nat.not_lt_zero _), fun j a => absurd a (Nat.not_lt_zero _), (World.ownsRow.lt h g rfl).2⟩
  rw [World.ownsRow.cellAt h j (by omega), List.getElem?_replicate, if_pos hj]
/-- a board at a time -/
structure CIn (w wr : World) (g n p : Nat) (B : Nat → Nat → Option Int) (m : Nat → Nat) (mi : Nat) : Prop where
  pl : CPlan wr w.heap.size g n p B m
  ci : wr.cell? ⟨g, p, none⟩ = some (.map (some mi))
  bl : Below w.heap.size w wr
  hm : w.heap.size ≤ mi ∧ mi < wr.heap.size ∧ mi ≠ g
  hg : w.heap.size ≤ g
  ap : ∀ j, j < p → m j ≠ mi
theorem CIn.kept {w wr wr' : World} {g n p : Nat} {B : Nat → Nat → Option Int} {m : Nat → Nat} {mi : Nat} (h : CIn w wr g n p B m mi) {row : Option Nat} (hg : wr.grownBy wr' row) (h1 : row ≠ some g) (h2 : ∀ j, j < p → row ≠ some (m j)) (h3 : ∀ x, row = some x → w.heap.size ≤ x) : CIn w wr' g n p B m mi := by
  have hb : wr'.heap[g]? = wr.heap[g]? := hg.block g h.pl.lt (fun e => h1 e.symm)
  exact ⟨h.pl.kept hg h1 h2, by rw [World.cell?_of_block hb]; exact h.ci, h.bl.grown hg h.bl.size (fun k hk => h3 k hk), ⟨h.hm.1, Nat.lt_of_lt_of_le h.hm.2.1 hg.size, h.hm.2.2⟩, h.hg, h.ap⟩
theorem newMap_cst {wr : World} {g p : Nat} : Cst (newMap wr g p) wr.heap.size 0 (fun _ => none) := by
  have := Cst.made (wr.setCell ⟨g, p, none⟩ (.map (some wr.heap.size)))
  rw [set_size] at this
  exact this
theorem cplan_in {w wr : World} {g n p : Nat} {B : Nat → Nat → Option Int} {m : Nat → Nat} (h : CPlan wr w.heap.size g n p B m) (hb : Below w.heap.size w wr) (hg : w.heap.size ≤ g) (hp : p < n) : CIn w (newMap wr g p) g n p B m wr.heap.size := by
  have hgl := h.lt
  have hs1 := newMap_size wr g p
  have hbs := hb.size
  obtain ⟨v0, a1⟩ := h.any p hp
  have hml : ∀ j, j < p → m j < wr.heap.size := fun j a => by obtain ⟨q, hq⟩ := h.cst j a; exact hq.lt
  have P2 : CPlan (wr.setCell ⟨g, p, none⟩ (.map (some wr.heap.size))) w.heap.size g n p B m := by
    have far : ∀ j, p ≠ j → (wr.setCell ⟨g, p, none⟩ (.map (some wr.heap.size))).cell? ⟨g, j, none⟩ = wr.cell? ⟨g, j, none⟩ := fun j hj => World.cell?_setCell_other _ _ _ _ (by intro e; injection e with e1 e2; exact hj e2)
    refine ⟨fun j a => by rw [far j (by omega)]; exact h.cell j a, fun j a => ?_, fun j => by rw [World.frozen?_setCell]; exact h.fz j, fun j a => ?_, h.ne, by rw [set_size]; omega⟩
    · by_cases e : p = j
      · subst e; exact ⟨_, World.cell?_setCell_same _ _ _ a1⟩
      · rw [far j e]; exact h.any j a
    · obtain ⟨q, hq⟩ := h.cst j a
      exact ⟨q, hq.kept (grown_set _ g p _) (by intro e; injection e with e; exact (h.ne j a).2 e)⟩
  have BA := below_new (wr.setCell ⟨g, p, none⟩ (.map (some wr.heap.size))) (.map #[] 0)
  refine ⟨P2.kept (grown_of_below BA none) (by simp) (by simp), ?_, plan_below hb hg, ⟨by omega, by omega, by omega⟩, hg, fun j a => ?_⟩
  · rw [show newMap wr g p = (wr.setCell ⟨g, p, none⟩ (.map (some wr.heap.size))).alloc (.map #[] 0) from rfl, (bcell BA).1 g p (by rw [set_size]; exact hgl)]
    exact World.cell?_setCell_same _ _ _ a1
  · have := hml j a
    omega
theorem cplan_done {w wx : World} {g n p kk : Nat} {B : Nat → Nat → Option Int} {m : Nat → Nat} {mi : Nat} (h : CIn w wx g n p B m mi) (ht : Cst wx mi kk (B p)) : CPlan wx w.heap.size g n (p + 1) B (fun j => if j = p then mi else m j) := by
  refine ⟨fun j a => ?_, h.pl.any, h.pl.fz, fun j a => ?_, fun j a => ?_, h.pl.lt⟩
  · by_cases e : j = p
    · subst e; rw [if_pos rfl]; exact h.ci
    · rw [if_neg e]; exact h.pl.cell j (by omega)
  · by_cases e : j = p
    · subst e; rw [if_pos rfl]; exact ⟨kk, ht⟩
    · rw [if_neg e]; exact h.pl.cst j (by omega)
  · by_cases e : j = p
    · rw [if_pos e]; exact ⟨h.hm.1, h.hm.2.2⟩
    · rw [if_neg e]; exact h.pl.ne j (by omega)
theorem abc_at (k : Nat) (h : k < (⟨#[97, 98, 99, 100, 101]⟩ : ByteArray).size) : (⟨#[97, 98, 99, 100, 101]⟩ : ByteArray)[k].toNat = 97 + k := by
  have g : ∀ k : Fin 5, ((⟨#[97, 98, 99, 100, 101]⟩ : ByteArray)[k.val]'(by have := k.isLt; exact this)).toNat = 97 + k.val := by decide +kernel
  exact g ⟨k, h⟩
set_option maxRecDepth 100000 in
set_option maxHeartbeats 8000000 in
theorem costlyTints_any (A : Option Addr) (cap : Nat) (LL : List (List Int)) (w : World) (h1 : 1 ≤ LL.length) (h20 : LL.length ≤ 20) (h5 : ∀ j (hj : j < LL.length), LL[j].length ≤ 5) (h : IntSS w A LL) :
    Calls Try.prog 58 #[.slice A LL.length cap] w fun e w' => ∃ g m, e = .returned (.slice (some ⟨g, 0, none⟩) LL.length LL.length) ∧ Brds w' (some ⟨g, 0, none⟩) LL.length (costB LL) m ∧ Below w.heap.size w w' := by
  obtain ⟨i0, hi, hz0, hz1, hz2⟩ := info_parts info_cst
  have hmm := @run_makeMap Try.prog
  have HSS := Lib.hid h
  have H5 := Lib.hid h5
  obtain ⟨sg, so, rfl, hsg, hsc⟩ := h.some (by omega)
  have HSC := Lib.hid hsc
  obtain ⟨n, hn⟩ : ∃ n, n = LL.length := ⟨_, rfl⟩
  have HN := Lib.hid hn
  rw [← hn] at h1 h20 ⊢
  clear h h5 hsc hn
  go_enter Try.func58, Try.ntmps58
  go_wp2_with (at_make; refine wpList_make_full _ rfl (.tmp 9) (.tmp 9) _ rfl w.heap.size 86 i0 _ 1 Try.underlying51 hi hz0 hz1 .i64 .i64 _ _ n rfl rfl rfl rfl (by rw [hz2]; omega) (by unfold maxLen; omega) (Nat.le_refl _) ?_; intro w1 hown hgrow)
  have HP0 : Hid (CPlan w1 w.heap.size w.heap.size n 0 (costB LL) (fun _ => 0)) := Lib.hid (cplan_start hown)
  have HB0 : Hid (Below w.heap.size w w1) := Lib.hid ((Below.refl w.heap.size w).grown hgrow (Nat.le_refl _) (fun k hk => by cases hk))
  obtain ⟨g, hg⟩ : ∃ g, g = w.heap.size := ⟨_, rfl⟩
  have hgb : w.heap.size ≤ g := by omega
  rw [← hg]
  rw [show CPlan w1 w.heap.size w.heap.size n 0 = CPlan w1 w.heap.size g n 0 from by rw [hg]] at HP0
  clear hown hgrow hg
  go_loopw [13] (fun v wr => ∃ (p : Nat) (m : Nat → Nat), p ≤ n ∧ v = .int .i64 (p : Int) ∧ CPlan wr w.heap.size g n p (costB LL) m ∧ Below w.heap.size w wr) (fun v _ => n - (intOf v).toNat)
  case atStart => exact ⟨0, _, Nat.zero_le _, rfl, HP0.out, HB0.out⟩
  case round =>
    clear HP0 HB0
    obtain ⟨p, m, hp, rfl, hpl, hb⟩ := hrel
    have HPL := Lib.hid hpl
    have HB := Lib.hid hb
    clear hpl hb
    by_cases hlt : p < n
    · have ip0 : (0 : Int) ≤ (p : Int) := by omega
      have ip1 : (p : Int) < (n : Int) := by omega
      have hpl : p < LL.length := by rw [← HN.out]; exact hlt
      obtain ⟨RA, rc, hcell, hrow⟩ := HSC.out p hpl
      have hr5 := H5.out p hpl
      have HCB : Hid (costB LL p = costP LL[p] LL[p].length) := Lib.hid (by funext z; unfold costB; rw [List.getD_eq_getElem?_getD, List.getElem?_eq_getElem hpl]; rfl)
      obtain ⟨R, hR⟩ : ∃ R, R = LL[p] := ⟨_, rfl⟩
      rw [← hR] at hcell hrow hr5 HCB
      have HRW := Lib.hid hrow
      have hcell1 := ((bcell HB.out).1 sg _ hsg).trans hcell
      obtain ⟨v0, hany⟩ := HPL.out.any p hlt
      have hfz := HPL.out.fz p
      have HIN := Lib.hid (cplan_in HPL.out HB.out hgb hlt)
      have HCM := Lib.hid (newMap_cst (wr := wr) (g := g) (p := p))
      have hgl := HPL.out.lt
      have hgne : g ≠ wr.heap.size := by omega
      clear hR hrow HPL hcell
      go_wp2
      rw [show (wr.setCell ⟨g, p, none⟩ (.map (some wr.heap.size))).alloc (.map #[] 0) = newMap wr g p from rfl]
      obtain ⟨W0, hW0⟩ : ∃ W, W = newMap wr g p := ⟨_, rfl⟩
      obtain ⟨mi, hmi⟩ : ∃ mi, mi = wr.heap.size := ⟨_, rfl⟩
      rw [← hW0] at HIN HCM ⊢
      rw [← hmi] at HIN HCM ⊢
      have HCM0 : Hid (Cst W0 mi 0 (costP R 0)) := Lib.hid (HCM.out.congr fun z _ => (costP_zero R z).symm)
      clear HCM hW0 hmi hcell1 hany hfz hgl hgne HB
      go_loopw [24] (fun v wx => ∃ k : Nat, k ≤ R.length ∧ v = .int .i64 (k : Int) ∧ Cst wx mi k (costP R k) ∧ CIn w wx g n p (costB LL) m mi) (fun v _ => R.length - (intOf v).toNat)
      case atStart => exact ⟨0, Nat.zero_le _, rfl, HCM0.out, HIN.out⟩
      case round =>
        clear HCM0 HIN
        obtain ⟨k, hk, rfl, hcst, hin⟩ := hrel
        have HC := Lib.hid hcst
        have HI := Lib.hid hin
        clear hcst hin
        by_cases hkl : k < R.length
        · obtain ⟨rg, ro, rfl, hrg, hat⟩ := (HRW.out.below HI.out.bl).some (by omega)
          have hv := hat k hkl
          have ik0 : (0 : Int) ≤ (k : Int) := by omega
          have ik1 : (k : Int) < (R.length : Int) := by omega
          have ik2 : (k : Int) < 5 := by omega
          have hks : k < (⟨#[97, 98, 99, 100, 101]⟩ : ByteArray).size := by show k < 5; omega
          have hidx := abc_at k hks
          have HSU := Lib.hid (costP_succ hkl)
          obtain ⟨v, hvv⟩ : ∃ v, v = R[k] := ⟨_, rfl⟩
          rw [← hvv] at hv HSU
          have HDR : Hid (Below wr.heap.size wr wr.drew) := Lib.hid (Below.refl _ _).drew
          obtain ⟨w5, hrun, hc5, hg5⟩ := Cst.put_run (w := wr.drew) (HC.out.kept (grown_of_below HDR.out none) (by simp)) (by unfold maxLen; omega) (97 + k) (by omega) v
          have hrun2 : (Instr.mapUpdate 86 (.map (some mi)) (.int .u8 (97 + (k : Int))) (.int .i64 v)).run Try.prog wr.drew = .ok () w5 := by rw [show (97 + (k : Int)) = ((97 + k : Nat) : Int) by omega]; exact hrun
          have HC5 : Hid (Cst w5 mi (k + 1) (costP R (k + 1))) := Lib.hid (by rw [HSU.out]; exact hc5)
          have HI5 := Lib.hid ((HI.out.kept (grown_of_below HDR.out none) (by simp) (by simp) (by simp)).kept hg5 (by intro e; injection e with e; exact HI.out.hm.2.2 e) (fun j a e => by injection e with e; exact HI.out.ap j a e.symm) (fun z e => by injection e with e; have := HI.out.hm.1; omega))
          have hcg := HI.out.ci
          have hcg5 := HI5.out.ci
          clear hvv hrun hc5 hg5 HC HSU hat hrg
          go_wp2
          go_region_held3 (fun z => z.cell? ⟨g, p, none⟩ = some (.map (some mi))) (first | exact hcg | exact hcg5) (fail)
          go_wp2
          go_roundw
          case rel => exact ⟨k + 1, by omega, by go_num, HC5.out, HI5.out⟩
          case measure => simp [intOf]; omega
        · obtain rfl : k = R.length := by omega
          have HD := Lib.hid (cplan_done HI.out (kk := R.length) (by rw [HCB.out]; exact HC.out))
          have HB := Lib.hid HI.out.bl
          clear HC HI
          go_wp2
          go_roundw
          case rel => exact ⟨p + 1, _, by omega, by go_num, HD.out, HB.out⟩
          case measure => simp [intOf]; omega
    · obtain rfl : p = n := by omega
      go_wp2
      go_ret
      exact ⟨g, m, rfl, HPL.out.brds, HB.out⟩
end Go.Proofs.Ytmdfcamieonabaa
