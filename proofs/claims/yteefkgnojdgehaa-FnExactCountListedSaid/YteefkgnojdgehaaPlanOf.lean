/- 'impl.planOf': the tallies of all boards in a line. No condition but the costs' bounds. -/
import Derived.Test.YteefkgnojdgehaaPlanMath
import Derived.Deep.RegionHeld3
import Derived.OwnWalk
namespace Go.Proofs.Yteefkgnojdgehaa
open Go.RowKit

theorem info_tal : (Try.prog.info? 71).map (fun i => (i.zero, i.size, i.bytes)) = some (some (.map none), 1, 8) := by kernel_rfl
/-- the plan from the board i on: a row of maps -/
structure Plan (w : World) (base g n i : Nat) (T : Nat → Nat → Option (Int × Int)) (m : Nat → Nat) : Prop where
  cell : ∀ j, i ≤ j → j < n → w.cell? ⟨g, j, none⟩ = some (.map (some (m j)))
  any : ∀ j, j < n → ∃ v, w.cell? ⟨g, j, none⟩ = some (.map v)
  fz : ∀ j, w.frozen? ⟨g, j, none⟩ = false
  tal : ∀ j, i ≤ j → j < n → ∃ q, Tal w (m j) q (T j)
  ne : ∀ j, i ≤ j → j < n → base ≤ m j ∧ m j ≠ g
  lt : g < w.heap.size
section
variable {w w' : World} {base g n i : Nat} {T : Nat → Nat → Option (Int × Int)} {m : Nat → Nat}
theorem Plan.kept (h : Plan w base g n i T m) {row : Option Nat} (hg : w.grownBy w' row) (h1 : row ≠ some g) (h2 : ∀ j, i ≤ j → j < n → row ≠ some (m j)) : Plan w' base g n i T m := by
  have hb : w'.heap[g]? = w.heap[g]? := hg.block g h.lt (fun e => h1 e.symm)
  have hc : ∀ j, w'.cell? ⟨g, j, none⟩ = w.cell? ⟨g, j, none⟩ := fun j => World.cell?_of_block hb
  have hf : ∀ j, w'.frozen? ⟨g, j, none⟩ = w.frozen? ⟨g, j, none⟩ := fun j => World.frozen?_of_block hb
  refine ⟨fun j a b => by rw [hc]; exact h.cell j a b, fun j a => by rw [hc]; exact h.any j a, fun j => by rw [hf]; exact h.fz j, fun j a b => ?_, h.ne, Nat.lt_of_lt_of_le h.lt hg.size⟩
  obtain ⟨q, hq⟩ := h.tal j a b
  exact ⟨q, hq.kept hg fun e => h2 j a b e.symm⟩
theorem Plan.below (h : Plan w base g n i T m) (hb : Below w.heap.size w w') : Plan w' base g n i T m := h.kept (grown_of_below hb none) (by simp) (by simp)
end
/-- boards that came in, or were made before: a row of maps of costs -/
structure Brds (w : World) (A : Option Addr) (n : Nat) (B : Nat → Nat → Option Int) (c : Nat → Nat) : Prop where
  at_ : 0 < n → ∃ g o, A = some ⟨g, o, none⟩ ∧ g < w.heap.size ∧ ∀ j, j < n → w.cell? ⟨g, o + j, none⟩ = some (.map (some (c j)))
  cst : ∀ j, j < n → ∃ q, Cst w (c j) q (B j)
theorem Brds.below {w w' : World} {A : Option Addr} {n : Nat} {B : Nat → Nat → Option Int} {c : Nat → Nat} (h : Brds w A n B c) (hb : Below w.heap.size w w') : Brds w' A n B c := by
  refine ⟨fun h0 => ?_, fun j hj => ?_⟩
  · obtain ⟨g, o, rfl, hg, hc⟩ := h.at_ h0
    exact ⟨g, o, rfl, Nat.lt_of_lt_of_le hg hb.size, fun j hj => by rw [(bcell hb).1 g _ hg]; exact hc j hj⟩
  · obtain ⟨q, hq⟩ := h.cst j hj
    exact ⟨q, hq.kept (grown_of_below hb none) (by simp)⟩
theorem Brds.lt {w : World} {A : Option Addr} {n : Nat} {B : Nat → Nat → Option Int} {c : Nat → Nat} (h : Brds w A n B c) (j : Nat) (hj : j < n) : c j < w.heap.size := by
  obtain ⟨q, hq⟩ := h.cst j hj
  exact hq.lt
/-- what the program says of a board at a time -/
structure PlIn (w wr : World) (g n p : Nat) (T : Nat → Nat → Option (Int × Int)) (m : Nat → Nat) (mi r : Nat) : Prop where
  pl : Plan wr w.heap.size g n (p + 1) T m
  ci : wr.cell? ⟨g, p, none⟩ = some (.map (some mi))
  bl : Below w.heap.size w wr
  hr : w.heap.size ≤ r ∧ r < wr.heap.size ∧ r ≠ g ∧ r ≠ mi
  hm : w.heap.size ≤ mi ∧ mi < wr.heap.size ∧ mi ≠ g
  hg : w.heap.size ≤ g
  ap : ∀ j, p + 1 ≤ j → j < n → m j ≠ mi ∧ m j ≠ r
theorem PlIn.kept {w wr wr' : World} {g n p : Nat} {T : Nat → Nat → Option (Int × Int)} {m : Nat → Nat} {mi r : Nat} (h : PlIn w wr g n p T m mi r) {row : Option Nat} (hg : wr.grownBy wr' row) (h1 : row ≠ some g) (h2 : ∀ j, p + 1 ≤ j → j < n → row ≠ some (m j)) (h3 : ∀ x, row = some x → w.heap.size ≤ x) : PlIn w wr' g n p T m mi r := by
  have hb : wr'.heap[g]? = wr.heap[g]? := hg.block g h.pl.lt (fun e => h1 e.symm)
  exact ⟨h.pl.kept hg h1 h2, by rw [World.cell?_of_block hb]; exact h.ci, h.bl.grown hg h.bl.size (fun k hk => h3 k hk), ⟨h.hr.1, Nat.lt_of_lt_of_le h.hr.2.1 hg.size, h.hr.2.2⟩, ⟨h.hm.1, Nat.lt_of_lt_of_le h.hm.2.1 hg.size, h.hm.2.2⟩, h.hg, h.ap⟩
theorem PlIn.below {w wr wr' : World} {g n p : Nat} {T : Nat → Nat → Option (Int × Int)} {m : Nat → Nat} {mi r : Nat} (h : PlIn w wr g n p T m mi r) (hb : Below wr.heap.size wr wr') : PlIn w wr' g n p T m mi r := h.kept (grown_of_below hb none) (by simp) (by simp) (by simp)

/-- a new map, its address written into the plan -/
def newMap (wr : World) (g p : Nat) : World := (wr.setCell ⟨g, p, none⟩ (.map (some wr.heap.size))).alloc (.map #[] 0)
theorem set_size (wr : World) (a : Addr) (v : Value) : (wr.setCell a v).heap.size = wr.heap.size := by simp
theorem newMap_size (wr : World) (g p : Nat) : (newMap wr g p).heap.size = wr.heap.size + 1 := by unfold newMap; simp
theorem plan_below {w wr : World} {g p : Nat} (hb : Below w.heap.size w wr) (hg : w.heap.size ≤ g) : Below w.heap.size w (newMap wr g p) := (below_store hb hg p _).alloc (by rw [set_size]; exact hb.size) _
theorem plan_tal {wr : World} {g p : Nat} : Tal (newMap wr g p) wr.heap.size 0 (fun _ => none) := by
  have := Tal.made (wr.setCell ⟨g, p, none⟩ (.map (some wr.heap.size)))
  rw [set_size] at this
  exact this
theorem plan_in {w wr : World} {g n p : Nat} {T : Nat → Nat → Option (Int × Int)} {m : Nat → Nat} (h : Plan wr w.heap.size g n (p + 1) T m) (hb : Below w.heap.size w wr) (hg : w.heap.size ≤ g) (hp : p < n) :
    ∀ w0, (newMap wr g p).grownBy w0 none → w0.heap.size = (newMap wr g p).heap.size + 1 → PlIn w w0 g n p T m wr.heap.size (wr.heap.size + 1) := fun w0 hg0 hs0 => by
  have hgl := h.lt
  have hs1 := newMap_size wr g p
  have hbs := hb.size
  obtain ⟨v0, a1⟩ := h.any p hp
  have hml : ∀ j, p + 1 ≤ j → j < n → m j < wr.heap.size := fun j a b => by obtain ⟨q, hq⟩ := h.tal j a b; exact hq.lt
  have P2 : Plan (wr.setCell ⟨g, p, none⟩ (.map (some wr.heap.size))) w.heap.size g n (p + 1) T m := by
    have far : ∀ j, p ≠ j → (wr.setCell ⟨g, p, none⟩ (.map (some wr.heap.size))).cell? ⟨g, j, none⟩ = wr.cell? ⟨g, j, none⟩ := fun j hj => World.cell?_setCell_other _ _ _ _ (by intro e; injection e with e1 e2; exact hj e2)
    refine ⟨fun j a b => by rw [far j (by omega)]; exact h.cell j a b, fun j a => ?_, fun j => by rw [World.frozen?_setCell]; exact h.fz j, fun j a b => ?_, h.ne, by rw [set_size]; omega⟩
    · by_cases e : p = j
      · subst e; exact ⟨_, World.cell?_setCell_same _ _ _ a1⟩
      · rw [far j e]; exact h.any j a
    · obtain ⟨q, hq⟩ := h.tal j a b
      exact ⟨q, hq.kept (grown_set _ g p _) (by intro e; injection e with e; exact (h.ne j a b).2 e)⟩
  have BA := below_new (wr.setCell ⟨g, p, none⟩ (.map (some wr.heap.size))) (.map #[] 0)
  have B0 : Below (newMap wr g p).heap.size (newMap wr g p) w0 := (Below.refl _ _).grown hg0 (Nat.le_refl _) (fun k hk => by cases hk)
  refine ⟨(P2.below BA).below B0, ?_, below_next (plan_below hb hg) B0, ⟨by omega, by omega, by omega, by omega⟩, ⟨by omega, by omega, by omega⟩, hg, fun j a b => ?_⟩
  · rw [(bcell B0).1 g p (by omega), show newMap wr g p = (wr.setCell ⟨g, p, none⟩ (.map (some wr.heap.size))).alloc (.map #[] 0) from rfl, (bcell BA).1 g p (by rw [set_size]; exact hgl)]
    exact World.cell?_setCell_same _ _ _ a1
  · have := hml j a b
    omega
theorem plan_done {w wx : World} {g n p kk : Nat} {T : Nat → Nat → Option (Int × Int)} {m : Nat → Nat} {mi r : Nat} (h : PlIn w wx g n p T m mi r) (ht : Tal wx mi kk (T p)) : Plan wx w.heap.size g n p T (fun j => if j = p then mi else m j) := by
  refine ⟨fun j a b => ?_, h.pl.any, h.pl.fz, fun j a b => ?_, fun j a b => ?_, h.pl.lt⟩
  · by_cases e : j = p
    · subst e; rw [if_pos rfl]; exact h.ci
    · rw [if_neg e]; exact h.pl.cell j (by omega) b
  · by_cases e : j = p
    · subst e; rw [if_pos rfl]; exact ⟨kk, ht⟩
    · rw [if_neg e]; exact h.pl.tal j (by omega) b
  · by_cases e : j = p
    · rw [if_pos e]; exact ⟨h.hm.1, h.hm.2.2⟩
    · rw [if_neg e]; exact h.pl.ne j (by omega) b
theorem seen_first {B : Nat → Nat → Option Int} {n d p k : Nat} (h : B (n - 1 - d) = B p) : seen (tT B n (d + 1)) (fun k => (B p k).isSome) k = none := by
  show (if (B p k).isSome = true then none else tT B n (d + 1) k) = none
  by_cases hs : (B p k).isSome = true
  · rw [if_pos hs]
  · rw [if_neg hs]; exact tT_none (by rw [h]; exact Option.not_isSome_iff_eq_none.1 hs)
theorem seen_skip {f : Nat → Option (Int × Int)} {left : Nat → Bool} {k : Nat} (_hk : left k = true) (hf : f k = none) : seen f (fun z => left z && !decide (z = k)) = seen f left := by
  funext z
  unfold seen
  by_cases e : z = k
  · subst e; simp [hf]
  · simp [e]
theorem plan_start {w1 : World} {g n : Nat} {T : Nat → Nat → Option (Int × Int)} (h : w1.ownsRow g 71 1 (.slice (some ⟨g, 0, none⟩) n n) n (madeCells (Value.map none).cells (n * 1)).toList) : Plan w1 g g n n T (fun _ => 0) := by
  have hl : (madeCells (Value.map none).cells (n * 1)).toList = List.replicate n (Value.map none) := by
    rw [Nat.mul_one, show (Value.map none).cells = #[Value.map none] from rfl, toList_madeCells_one]
  rw [hl] at h
  refine ⟨fun j a b => by omega, fun j hj => ⟨none, ?_⟩, fun j => World.ownsRow.frozenAt h j, fun j a b => by omega, fun j a b => by omega, (World.ownsRow.lt h g rfl).2⟩
  rw [World.ownsRow.cellAt h j (by omega), List.getElem?_replicate, if_pos hj]

set_option maxRecDepth 100000 in
set_option maxHeartbeats 8000000 in
theorem planOf_any (n : Nat) (A : Option Addr) (cap : Nat) (B : Nat → Nat → Option Int) (c : Nat → Nat) (w : World) (h1 : 1 ≤ n) (h20 : n ≤ 20) (hB : costly B) (h : Brds w A n B c) :
    Calls Try.prog 86 #[.slice A n cap] w fun e w' => ∃ m, e = .returned (.slice (some ⟨w.heap.size, 0, none⟩) n n) ∧ Plan w' w.heap.size w.heap.size n 0 (fun j => tT B n (n - j)) m ∧ Below w.heap.size w w' := by
  obtain ⟨i0, hi, hz0, hz1, hz2⟩ := info_parts info_tal
  have HBR := Lib.hid h
  have HCO := Lib.hid hB
  have hmm := @run_makeMap Try.prog
  clear h hB
  go_enter Try.func86, Try.ntmps86
  go_wp2_with (at_make; refine wpList_make_full _ rfl (.tmp 9) (.tmp 9) _ rfl w.heap.size 71 i0 _ 1 Try.underlying77 hi hz0 hz1 .i64 .i64 _ _ n rfl rfl rfl rfl (by rw [hz2]; omega) (by unfold maxLen; omega) (Nat.le_refl _) ?_; intro w1 hown hgrow)
  have HP0 : Hid (Plan w1 w.heap.size w.heap.size n n (fun j => tT B n (n - j)) (fun _ => 0)) := Lib.hid (plan_start hown)
  have HB0 : Hid (Below w.heap.size w w1) := Lib.hid ((Below.refl w.heap.size w).grown hgrow (Nat.le_refl _) (fun k hk => by cases hk))
  obtain ⟨g, hg⟩ : ∃ g, g = w.heap.size := ⟨_, rfl⟩
  have hgb : w.heap.size ≤ g := by omega
  rw [← hg]
  rw [show Plan w1 w.heap.size w.heap.size n n = Plan w1 w.heap.size g n n from by rw [hg]] at HP0
  have HG := Lib.hid hg
  clear hown hgrow hg
  go_loopw [4] (fun v wr => ∃ (e : Nat) (m : Nat → Nat), e ≤ n ∧ v = .int .i64 ((e : Int) - 1) ∧ Plan wr w.heap.size g n e (fun j => tT B n (n - j)) m ∧ Below w.heap.size w wr) (fun v _ => (intOf v + 1).toNat)
  case atStart => exact ⟨n, _, Nat.le_refl _, rfl, HP0.out, HB0.out⟩
  case round =>
    clear HP0 HB0
    obtain ⟨e, m, he, rfl, hpl, hb⟩ := hrel
    have HPL := Lib.hid hpl
    have HB := Lib.hid hb
    clear hpl hb
    rcases Nat.eq_zero_or_pos e with hz | hz
    · subst hz
      have hge : ¬ (0 : Int) ≤ ((0 : Nat) : Int) - 1 := by omega
      go_wp2
      go_ret
      exact ⟨by rw [← HG.out]; rfl, ⟨m, by rw [show Plan wr w.heap.size w.heap.size n 0 = Plan wr w.heap.size g n 0 from by rw [HG.out]]; exact HPL.out⟩, HB.out⟩
    · obtain ⟨p, rfl⟩ : ∃ p, e = p + 1 := ⟨e - 1, by omega⟩
      rw [show (((p + 1 : Nat) : Int) - 1) = (p : Int) by omega]
      have ip0 : (0 : Int) ≤ (p : Int) := by omega
      have ip1 : (p : Int) < (n : Int) := by omega
      obtain ⟨v0, hany⟩ := HPL.out.any p (by omega)
      have hgl := HPL.out.lt
      have HIN := Lib.hid (plan_in HPL.out HB.out hgb (by omega))
      have HTM := Lib.hid (plan_tal (wr := wr) (g := g) (p := p))
      have HBW := Lib.hid (plan_below (wr := wr) (p := p) HB.out hgb)
      have HBX := Lib.hid (HBR.out.below HBW.out)
      obtain ⟨q, hcs⟩ := HBX.out.cst p (by omega)
      have HCS := Lib.hid hcs
      have hfz := HPL.out.fz p
      have hlp := HBR.out.lt p (by omega)
      obtain ⟨bg, bo, rfl, hbg, hbc⟩ := HBR.out.at_ (by omega)
      have hbp0 : w.cell? ⟨bg, bo + p, none⟩ = some (.map (some (c p))) := hbc p (by omega)
      have hbs := HB.out.size
      have hne2 : bg ≠ g := by omega
      have hbp1 : (wr.setCell ⟨g, p, none⟩ (.map (some wr.heap.size))).cell? ⟨bg, bo + p, none⟩ = some (.map (some (c p))) := (World.cell?_of_block (Below.heap_setCell wr ⟨g, p, none⟩ _ bg hne2)).trans (((bcell HB.out).1 bg _ hbg).trans hbp0)
      have hbp2 : ((wr.setCell ⟨g, p, none⟩ (.map (some wr.heap.size))).alloc (.map #[] 0)).cell? ⟨bg, bo + p, none⟩ = some (.map (some (c p))) := ((bcell (below_new _ _)).1 bg _ (by rw [set_size]; omega)).trans hbp1
      have hgne : g ≠ wr.heap.size := by omega
      clear hbc hcs hbg hbp0
      go_wp2_with (at_range; refine wpList_cst_range rfl (.tmp 25) rfl rfl HCS.out ?_; intro w0 cnt0 hrg0 hg0 hs0)
      have HPI0 := Lib.hid (HIN.out w0 hg0 hs0)
      have HTM0 := Lib.hid (HTM.out.kept hg0 (by simp))
      obtain ⟨r, hr⟩ : ∃ r, r = ((wr.setCell ⟨g, p, none⟩ (.map (some wr.heap.size))).alloc (.map #[] 0)).heap.size := ⟨_, rfl⟩
      have hr2 : r = wr.heap.size + 1 := by rw [hr]; exact newMap_size wr g p
      rw [← hr] at hrg0 ⊢
      rw [← hr2] at HPI0
      obtain ⟨mi, hmi⟩ : ∃ mi, mi = wr.heap.size := ⟨_, rfl⟩
      rw [← hmi] at HPI0 HTM0 ⊢
      obtain ⟨d, hd⟩ : ∃ d, d = n - 1 - p := ⟨_, rfl⟩
      have hdp : n - 1 - d = p := by omega
      have HTP : Hid (tT B n (n - p) = tT B n (d + 1)) := Lib.hid (by rw [show n - p = d + 1 by omega])
      have HT0 : Hid (Tal w0 mi 0 (seen (tT B n (d + 1)) (fun k => (B p k).isSome))) := Lib.hid (HTM0.out.congr fun k _ => (seen_first (by rw [hdp])).symm)
      have HR0 := Lib.hid hrg0
      have hmb : w.heap.size ≤ mi := by omega
      have hcm : c p ≠ mi := by omega
      clear HIN HTM HBW HBX hbp1 hbp2 hr hr2 hmi hrg0 hg0 hs0 HTM0 HCS HPL HB
      go_frame
      go_loopw [5, 6] (fun _ _ wx => ∃ left cnt kk, CstRg wx (c p) r q (B p) left cnt ∧ Tal wx mi kk (seen (tT B n (d + 1)) left) ∧ kk ≤ seenN left ∧ PlIn w wx g n p (fun j => tT B n (n - j)) m mi r) (fun _ _ wx => wx.rangeLeft (c p) r)
      case atStart => exact ⟨_, _, 0, HR0.out, HT0.out, Nat.zero_le _, HPI0.out⟩
      case round =>
        clear HR0 HT0 HPI0
        obtain ⟨left, cnt, kk, hrg, htl, hkk, hpi⟩ := hrel
        have HPI := Lib.hid hpi
        have HTL := Lib.hid htl
        clear hpi htl
        go_wp2_with (at_next; refine wpList_cst_next rfl (.tmp 26) rfl rfl hrg ?_ ?_)
        · intro hdone
          have HPD := Lib.hid (plan_done HPI.out (kk := kk) (by
            show Tal wr mi kk (tT B n (n - p))
            rw [HTP.out]
            exact HTL.out.congr fun k hk => by unfold seen; rw [hdone k hk]; rfl))
          have HBD := Lib.hid HPI.out.bl
          clear hrg hdone HTL HPI
          go_wp2
          go_roundw
          case rel => exact ⟨p, _, by omega, by go_num, HPD.out, HBD.out⟩
          case measure => simp [intOf]
        · intro k v w1 cnt1 hk hlk hfk hrg1 hlt hg1 hs1 hen
          have hen2 : (Instr.entry (.pointer (some ⟨r, 0, none⟩))).run Try.prog w1 = .ok (.tuple #[.int .u8 (k : Int), .int .i64 v]) w1 := hen
          obtain ⟨hkm, hv0, hv1⟩ := HCO.out p k v hfk
          have HL := Lib.hid hrg.left_eq
          have hkk2 := seenN_step hlk hkm
          have HP1 := Lib.hid (HPI.out.kept hg1 (by intro e; injection e with e; exact HPI.out.hr.2.2.1 e) (fun j a b e => by injection e with e; exact (HPI.out.ap j a b).2 e.symm) (fun x e => by injection e with e; have := HPI.out.hr.1; omega))
          have HT1 := Lib.hid (HTL.out.kept hg1 (by intro e; injection e with e; exact HPI.out.hr.2.2.2 e.symm))
          have HP2 := Lib.hid (HP1.out.below (below_new w1 (.cells #[.int .i64 1, .int .i64 0] 54)))
          have HT2 := Lib.hid (HT1.out.kept (World.grownBy_alloc w1 (.cells #[.int .i64 1, .int .i64 0] 54) none) (by simp))
          have HR2 := Lib.hid (hrg1.kept (World.grownBy_alloc w1 (.cells #[.int .i64 1, .int .i64 0] 54) none) (by simp) (by simp))
          obtain ⟨b0, b1⟩ := cells2 w1 1 0 54
          have hqm0 : w1.heap.size ≠ mi := by have := HP1.out.hm; omega
          have hqg0 : w1.heap.size ≠ g := by have := HP1.out.pl.lt; omega
          have hqr0 : w1.heap.size ≠ r := by have := HP1.out.hr; omega
          have hqj0 : ∀ j, p + 1 ≤ j → j < n → m j ≠ w1.heap.size := fun j a b => by obtain ⟨q', hq'⟩ := HP1.out.pl.tal j a b; have := hq'.lt; omega
          have hwq : w.heap.size ≤ w1.heap.size := HP1.out.bl.size
          clear hen hrg hrg1 hg1 HPI HTL HP1 HT1
          by_cases hpn : p + 1 = n
          · have hcnd : ¬ (p : Int) + 1 < (n : Int) := by omega
            have hd0 : d = 0 := by omega
            have HXY0 : Hid (rst B n d k = (1, 0)) := Lib.hid (by unfold rst; rw [if_pos hd0])
            have HTK : Hid (tT B n (d + 1) k = some (1, v)) := Lib.hid (by
              rw [tT_some (by rw [hdp]; exact hfk), HXY0.out, if_pos (by decide)]
              simp)
            clear hs1
            go_wp2
            obtain ⟨wz, hwz⟩ : ∃ wz, wz = w1.alloc (.cells #[.int .i64 1, .int .i64 0] 54) := ⟨_, rfl⟩
            have hqz0 : w1.heap.size < wz.drew.heap.size := by rw [hwz]; simp [World.drew]
            rw [← hwz] at HP2 HT2 HR2 b0 b1 ⊢
            obtain ⟨qb, hqb⟩ : ∃ q, q = w1.heap.size := ⟨_, rfl⟩
            rw [← hqb] at b0 b1 hqm0 hqz0 ⊢
            have hqm := hqm0
            have hqz := hqz0
            clear hwz hqb
            have HDR : Hid (Below wz.heap.size wz wz.drew) := Lib.hid (Below.refl _ _).drew
            obtain ⟨w5, hrun, hT5, hg5⟩ := Tal.put_run (w := wz.drew) (HT2.out.kept (grown_of_below HDR.out none) (by simp)) (by unfold maxLen; have := seenN_le left; omega) k hk (1, v)
            have hrun2 : (Instr.mapUpdate 71 (.map (some mi)) (.int .u8 (k : Int)) (.agg #[.int .i64 1, .int .i64 v])).run Try.prog wz.drew = .ok () w5 := hrun
            have wyv : IntKind.i64.wrap v = v := by rw [IntKind.wrap_i64]; omega
            have HP5 := Lib.hid ((HP2.out.below HDR.out).kept hg5 (by intro e; injection e with e; exact HP2.out.hm.2.2 e) (fun j a b e => by injection e with e; exact (HP2.out.ap j a b).1 e.symm) (fun z e => by injection e with e; have := HP2.out.hm.1; omega))
            have HR5 := Lib.hid ((HR2.out.kept (grown_of_below HDR.out none) (by simp) (by simp)).kept hg5 (by intro e; injection e with e; exact hcm e) (by intro e; injection e with e; exact HP2.out.hr.2.2.2 e))
            have HT5 : Hid (Tal w5 mi (kk + 1) (seen (tT B n (d + 1)) (fun z => left z && !decide (z = k)))) := Lib.hid (by rw [seen_step hlk HTK.out]; exact hT5)
            have HS5 : Hid (w5.cell? ⟨g, p, none⟩ = some (.map (some mi)) ∧ w5.cell? ⟨qb, 0, none⟩ = some (.int .i64 1) ∧ w5.cell? ⟨qb, 1, none⟩ = some (.int .i64 0)) := Lib.hid (by
              have e : w5.heap[qb]? = wz.drew.heap[qb]? := hg5.block qb hqz (by intro e; injection e with e; exact hqm e)
              exact ⟨HP5.out.ci, (World.cell?_of_block e).trans b0, (World.cell?_of_block e).trans b1⟩)
            have hcg := HP2.out.ci
            have HSD : Hid (wz.drew.cell? ⟨g, p, none⟩ = some (.map (some mi)) ∧ wz.drew.cell? ⟨qb, 0, none⟩ = some (.int .i64 1) ∧ wz.drew.cell? ⟨qb, 1, none⟩ = some (.int .i64 0)) := Lib.hid ⟨hcg, b0, b1⟩
            clear hrun hT5 hg5 HT2 HR2 HP2
            go_region_held3 (fun z => z.cell? ⟨g, p, none⟩ = some (.map (some mi)) ∧ z.cell? ⟨qb, 0, none⟩ = some (.int .i64 1) ∧ z.cell? ⟨qb, 1, none⟩ = some (.int .i64 0)) (first | exact HSD.out | exact HS5.out) (fail)
            go_wp2
            go_roundw
            case rel => exact ⟨_, cnt1, kk + 1, HR5.out, HT5.out, by omega, HP5.out⟩
            case measure => rw [HR5.out.left_eq, HL.out]; exact hlt
          · have hcnd : (p : Int) + 1 < (n : Int) := by omega
            have hdp1 : n - (p + 1) = d := by omega
            have hd0 : d ≠ 0 := by omega
            have hcm1 := HP2.out.pl.cell (p + 1) (Nat.le_refl _) (by omega)
            obtain ⟨q', htal⟩ := HP2.out.pl.tal (p + 1) (Nat.le_refl _) (by omega)
            have htal2 : Tal (w1.alloc (.cells #[.int .i64 1, .int .i64 0] 54)) (m (p + 1)) q' (tT B n d) := by rw [← hdp1]; exact htal
            have HBES := Lib.hid (beside_any _ (m (p + 1)) q' k (tT B n d) htal2 (tT_neat HCO.out n d (by omega)))
            have hrb := rst_bd HCO.out n d k (by omega)
            have hre : rst B n d k = besT (tT B n d) k := by unfold rst; rw [if_neg hd0]
            obtain ⟨x, hx⟩ : ∃ x : Int, x = (rst B n d k).1 := ⟨_, rfl⟩
            obtain ⟨y, hy⟩ : ∃ y : Int, y = (rst B n d k).2 := ⟨_, rfl⟩
            rw [← hx, ← hy] at hrb
            have HBE2 : Hid (Calls Try.prog 69 #[.map (some (m (p + 1))), .int .u8 (k : Int)] (w1.alloc (.cells #[.int .i64 1, .int .i64 0] 54)) fun e w' => e = .returned (.agg #[.int .i64 x, .int .i64 y]) ∧ Below (w1.alloc (.cells #[.int .i64 1, .int .i64 0] 54)).heap.size (w1.alloc (.cells #[.int .i64 1, .int .i64 0] 54)) w') := Lib.hid (by rw [hx, hy, hre]; exact HBES.out)
            have HTS : Hid (tT B n (d + 1) k = if 0 < x then some (x, y + v) else none) := Lib.hid (by rw [tT_some (by rw [hdp]; exact hfk), ← hx, ← hy])
            obtain ⟨M, hM⟩ : ∃ M, M = m (p + 1) := ⟨_, rfl⟩
            rw [← hM] at HBE2 hcm1
            have hbf : ∀ j, (w1.alloc (.cells #[.int .i64 1, .int .i64 0] 54)).frozen? ⟨w1.heap.size, j, none⟩ = false := fun j => by simp
            have ip2 : (0 : Int) ≤ (p : Int) + 1 := by omega
            have hlz : w1.heap.size < (w1.alloc (.cells #[.int .i64 1, .int .i64 0] 54)).heap.size := by simp
            have HLZ := Lib.hid hlz
            have HBF := Lib.hid hbf
            have HB01 : Hid (_ ∧ _) := Lib.hid ⟨b0, b1⟩
            clear hs1 htal htal2 HBES hre hx hy hM hlz hbf b0 b1
            go_wp2_with fail
            refine HBE2.out.mono ?_
            rintro e w3 ⟨rfl, hb3⟩
            have c0 := ((bcell hb3).1 w1.heap.size 0 HLZ.out).trans HB01.out.1
            have c1 := ((bcell hb3).1 w1.heap.size 1 HLZ.out).trans HB01.out.2
            have g0 := ((bcell hb3).2 w1.heap.size 0 HLZ.out).trans (HBF.out 0)
            have g1 := ((bcell hb3).2 w1.heap.size 1 HLZ.out).trans (HBF.out 1)
            obtain ⟨qb, hqb⟩ : ∃ q, q = w1.heap.size := ⟨_, rfl⟩
            have hqz3 : qb < w3.heap.size := by have := hb3.size; have := HLZ.out; omega
            have HP3 := Lib.hid (HP2.out.below hb3)
            have HT3 := Lib.hid (HT2.out.kept (grown_of_below hb3 none) (by simp))
            have HR3 := Lib.hid (HR2.out.kept (grown_of_below hb3 none) (by simp) (by simp))
            rw [← hqb] at c0 c1 g0 g1 hqm0 hqg0 hqr0 hqj0 hwq ⊢
            have hcq : c p ≠ qb := by omega
            have HP2 := Lib.hid ((HP3.out.kept (grown_set w3 qb 0 (.int .i64 x)) (by intro e; injection e with e; exact hqg0 e) (fun j a b e => by injection e with e; exact hqj0 j a b e.symm) (fun z e => by injection e with e; omega)).kept (grown_set _ qb 1 (.int .i64 y)) (by intro e; injection e with e; exact hqg0 e) (fun j a b e => by injection e with e; exact hqj0 j a b e.symm) (fun z e => by injection e with e; omega))
            have HT2 := Lib.hid ((HT3.out.kept (grown_set w3 qb 0 (.int .i64 x)) (by intro e; injection e with e; exact hqm0 e.symm)).kept (grown_set _ qb 1 (.int .i64 y)) (by intro e; injection e with e; exact hqm0 e.symm))
            have HR2 := Lib.hid ((HR3.out.kept (grown_set w3 qb 0 (.int .i64 x)) (by intro e; injection e with e; exact hcq e) (by intro e; injection e with e; exact hqr0 e.symm)).kept (grown_set _ qb 1 (.int .i64 y)) (by intro e; injection e with e; exact hcq e) (by intro e; injection e with e; exact hqr0 e.symm))
            have n01 : (⟨qb, 0, none⟩ : Addr) ≠ ⟨qb, 1, none⟩ := by simp
            have b0 : ((w3.setCell ⟨qb, 0, none⟩ (.int .i64 x)).setCell ⟨qb, 1, none⟩ (.int .i64 y)).cell? ⟨qb, 0, none⟩ = some (.int .i64 x) := (World.cell?_setCell_other _ _ _ _ n01.symm).trans (World.cell?_setCell_same _ _ _ c0)
            have b1 : ((w3.setCell ⟨qb, 0, none⟩ (.int .i64 x)).setCell ⟨qb, 1, none⟩ (.int .i64 y)).cell? ⟨qb, 1, none⟩ = some (.int .i64 y) := World.cell?_setCell_same _ _ _ ((World.cell?_setCell_other _ _ _ _ n01).trans c1)
            have hqz0 : qb < ((w3.setCell ⟨qb, 0, none⟩ (.int .i64 x)).setCell ⟨qb, 1, none⟩ (.int .i64 y)).drew.heap.size := by simp [World.drew]; exact hqz3
            have hqm := hqm0
            have HB0 := Lib.hid b0
            have HB1 := Lib.hid b1
            clear hb3 hqb HP3 HT3 HR3 HBE2 HLZ HBF HB01 b0 b1
            by_cases h0 : 0 < x
            · have HTK : Hid (tT B n (d + 1) k = some (x, y + v)) := Lib.hid (by rw [HTS.out, if_pos h0])
              go_wp2
              obtain ⟨wz, hwz⟩ : ∃ wz, wz = (w3.setCell ⟨qb, 0, none⟩ (.int .i64 x)).setCell ⟨qb, 1, none⟩ (.int .i64 y) := ⟨_, rfl⟩
              have hqz := hqz0
              rw [← hwz] at HP2 HT2 HR2 HB0 HB1 hqz ⊢
              have b0 := HB0.out
              have b1 := HB1.out
              clear hwz HB0 HB1 hqz0 c0 c1 g0 g1
              have HDR : Hid (Below wz.heap.size wz wz.drew) := Lib.hid (Below.refl _ _).drew
              obtain ⟨w5, hrun, hT5, hg5⟩ := Tal.put_run (w := wz.drew) (HT2.out.kept (grown_of_below HDR.out none) (by simp)) (by unfold maxLen; have := seenN_le left; omega) k hk (x, (y + v))
              have hrun2 : (Instr.mapUpdate 71 (.map (some mi)) (.int .u8 (k : Int)) (.agg #[.int .i64 x, .int .i64 (y + v)])).run Try.prog wz.drew = .ok () w5 := hrun
              have wyv : IntKind.i64.wrap (y + v) = (y + v) := by rw [IntKind.wrap_i64]; omega
              have HP5 := Lib.hid ((HP2.out.below HDR.out).kept hg5 (by intro e; injection e with e; exact HP2.out.hm.2.2 e) (fun j a b e => by injection e with e; exact (HP2.out.ap j a b).1 e.symm) (fun z e => by injection e with e; have := HP2.out.hm.1; omega))
              have HR5 := Lib.hid ((HR2.out.kept (grown_of_below HDR.out none) (by simp) (by simp)).kept hg5 (by intro e; injection e with e; exact hcm e) (by intro e; injection e with e; exact HP2.out.hr.2.2.2 e))
              have HT5 : Hid (Tal w5 mi (kk + 1) (seen (tT B n (d + 1)) (fun z => left z && !decide (z = k)))) := Lib.hid (by rw [seen_step hlk HTK.out]; exact hT5)
              have HS5 : Hid (w5.cell? ⟨g, p, none⟩ = some (.map (some mi)) ∧ w5.cell? ⟨qb, 0, none⟩ = some (.int .i64 x) ∧ w5.cell? ⟨qb, 1, none⟩ = some (.int .i64 y)) := Lib.hid (by
                have e : w5.heap[qb]? = wz.drew.heap[qb]? := hg5.block qb hqz (by intro e; injection e with e; exact hqm e)
                exact ⟨HP5.out.ci, (World.cell?_of_block e).trans b0, (World.cell?_of_block e).trans b1⟩)
              have hcg := HP2.out.ci
              have HSD : Hid (wz.drew.cell? ⟨g, p, none⟩ = some (.map (some mi)) ∧ wz.drew.cell? ⟨qb, 0, none⟩ = some (.int .i64 x) ∧ wz.drew.cell? ⟨qb, 1, none⟩ = some (.int .i64 y)) := Lib.hid ⟨hcg, b0, b1⟩
              clear hrun hT5 hg5 HT2 HR2 HP2
              go_region_held3 (fun z => z.cell? ⟨g, p, none⟩ = some (.map (some mi)) ∧ z.cell? ⟨qb, 0, none⟩ = some (.int .i64 x) ∧ z.cell? ⟨qb, 1, none⟩ = some (.int .i64 y)) (first | exact HSD.out | exact HS5.out) (fail)
              go_wp2
              go_roundw
              case rel => exact ⟨_, cnt1, kk + 1, HR5.out, HT5.out, by omega, HP5.out⟩
              case measure => rw [HR5.out.left_eq, HL.out]; exact hlt
            · have hTk : tT B n (d + 1) k = none := by rw [HTS.out, if_neg h0]
              have HT6 : Hid (Tal ((w3.setCell ⟨qb, 0, none⟩ (.int .i64 x)).setCell ⟨qb, 1, none⟩ (.int .i64 y)) mi kk (seen (tT B n (d + 1)) (fun z => left z && !decide (z = k)))) := Lib.hid (by rw [seen_skip hlk hTk]; exact HT2.out)
              clear hTk HT2
              go_wp2
              go_roundw
              case rel => exact ⟨_, cnt1, kk, HR2.out, HT6.out, by omega, HP2.out⟩
              case measure => rw [HR2.out.left_eq, HL.out]; exact hlt
end Go.Proofs.Yteefkgnojdgehaa
