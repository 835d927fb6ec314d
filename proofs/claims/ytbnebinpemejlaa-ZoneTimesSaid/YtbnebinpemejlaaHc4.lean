/- Contracts of layer 3's within.; Plain mathematics: the simplest number between two others, as the program finds it, lies between them and is the simplest. Nothing of the program is named here.; Contracts of simplest and Middle, of package ratio and of the reference.; Contracts of Middle, of package ratio and of the reference.; Contracts of layer 3's fromZero, isEmpty, choose.; The contract of layer 3's choose.; Contracts of clock and ready of layer 3's reference.; Contracts of Meets of package limit and of its reference.; Plain mathematics of ratios: what Make returns stands for the quotient.; The contract of Has of layer 3's reference. -/
import Derived.Test.YtbnebinpemejlaaHc1
import Derived.Test.YtbnebinpemejlaaHc3
import Derived.Deep.WholeRow

namespace Go.Proofs.Ytbnebinpemejlaa
open Go.RowKit

/-- An interval of delays. -/
structure Dl where
  ln : Int
  ld : Int
  hn : Int
  hd : Int
  lo : Bool
  ho : Bool
  nh : Bool

def Dl.cs (x : Dl) : Array Value := #[.int .i64 x.ln, .int .i64 x.ld, .int .i64 x.hn, .int .i64 x.hd, .bool x.lo, .bool x.ho, .bool x.nh]

def Dl.zero : Dl := ⟨0, 0, 0, 0, false, false, false⟩

/-- Block b holds these cells. -/
def Drow (w : World) (b : Nat) (A : Array Value) : Prop := w.heap[b]? = some (.cells A 64 (0, 0))

theorem Drow.lt {w : World} {b : Nat} {A : Array Value} (h : Drow w b A) : b < w.heap.size := by
  by_cases e : b < w.heap.size
  · exact e
  · have := h; unfold Drow at this; rw [Array.getElem?_eq_none (by omega)] at this; cases this

theorem Drow.kept {w w' : World} {b : Nat} {A : Array Value} (h : Drow w b A) (hb : Below w.heap.size w w') : Drow w' b A := (hb.block b h.lt).trans h

theorem Drow.made (w : World) (A : Array Value) : Drow (w.alloc (.cells A 64)) w.heap.size A := heap_alloc_last w _

theorem Drow.alloc {w : World} {b : Nat} {A : Array Value} (h : Drow w b A) (o : Obj) : Drow (w.alloc o) b A := h.kept (one_more o)

theorem Drow.cell {w : World} {b : Nat} {A : Array Value} (h : Drow w b A) (k : Nat) : w.cell? ⟨b, k, none⟩ = A[k]? := cell_of_row _ _ k A _ _ h

theorem Drow.free {w : World} {b : Nat} {A : Array Value} (h : Drow w b A) (k : Nat) : w.frozen? ⟨b, k, none⟩ = false := frozen_of_row w b k _ _ h

theorem Drow.put {w : World} {b : Nat} {A : Array Value} (h : Drow w b A) (k : Nat) (v : Value) : Drow (w.setCell ⟨b, k, none⟩ v) b (A.setIfInBounds k v) := by
  unfold Drow
  rw [heap_setCell_same w b _ _ _ _ h]

theorem Drow.far {w : World} {b : Nat} {A : Array Value} (h : Drow w b A) {p : Addr} (hp : b ≠ p.block) (v : Value) : Drow (w.setCell p v) b A := (heap_setCell_other w p b v hp).trans h

/-- Block b holds the interval x. -/
def Dbx (w : World) (b : Nat) (x : Dl) : Prop := Drow w b x.cs

theorem Dbx.facts {w : World} {b : Nat} {x : Dl} (h : Dbx w b x) : w.cell? ⟨b, 0, none⟩ = some (.int .i64 x.ln) ∧ w.cell? ⟨b, 1, none⟩ = some (.int .i64 x.ld) ∧ w.cell? ⟨b, 2, none⟩ = some (.int .i64 x.hn) ∧ w.cell? ⟨b, 3, none⟩ = some (.int .i64 x.hd) ∧
    w.cell? ⟨b, 4, none⟩ = some (.bool x.lo) ∧ w.cell? ⟨b, 5, none⟩ = some (.bool x.ho) ∧ w.cell? ⟨b, 6, none⟩ = some (.bool x.nh) :=
  ⟨h.cell 0, h.cell 1, h.cell 2, h.cell 3, h.cell 4, h.cell 5, h.cell 6⟩

theorem Dbx.frees {w : World} {b : Nat} {x : Dl} (h : Dbx w b x) : w.frozen? ⟨b, 0, none⟩ = false ∧ w.frozen? ⟨b, 1, none⟩ = false ∧ w.frozen? ⟨b, 2, none⟩ = false ∧ w.frozen? ⟨b, 3, none⟩ = false ∧
    w.frozen? ⟨b, 4, none⟩ = false ∧ w.frozen? ⟨b, 5, none⟩ = false ∧ w.frozen? ⟨b, 6, none⟩ = false :=
  ⟨h.free 0, h.free 1, h.free 2, h.free 3, h.free 4, h.free 5, h.free 6⟩

theorem Dbx.kept {w w' : World} {b : Nat} {x : Dl} (h : Dbx w b x) (hb : Below w.heap.size w w') : Dbx w' b x := Drow.kept h hb

theorem Dbx.all {w : World} {b : Nat} {x : Dl} (h : Dbx w b x) (y : Dl) : Dbx (((((((w.setCell ⟨b, 0, none⟩ (.int .i64 y.ln)).setCell ⟨b, 1, none⟩ (.int .i64 y.ld)).setCell ⟨b, 2, none⟩ (.int .i64 y.hn)).setCell ⟨b, 3, none⟩ (.int .i64 y.hd)).setCell ⟨b, 4, none⟩ (.bool y.lo)).setCell ⟨b, 5, none⟩ (.bool y.ho)).setCell ⟨b, 6, none⟩ (.bool y.nh)) b y := by
  have := ((((((Drow.put h 0 (.int .i64 y.ln)).put 1 (.int .i64 y.ld)).put 2 (.int .i64 y.hn)).put 3 (.int .i64 y.hd)).put 4 (.bool y.lo)).put 5 (.bool y.ho)).put 6 (.bool y.nh)
  simpa [Dbx, Dl.cs] using this

theorem Dbx.high {w : World} {b : Nat} {x : Dl} (h : Dbx w b x) (n d : Int) (o : Bool) : Dbx ((((w.setCell ⟨b, 2, none⟩ (.int .i64 n)).setCell ⟨b, 3, none⟩ (.int .i64 d)).setCell ⟨b, 5, none⟩ (.bool o)).setCell ⟨b, 6, none⟩ (.bool false)) b { x with hn := n, hd := d, ho := o, nh := false } := by
  have := (((Drow.put h 2 (.int .i64 n)).put 3 (.int .i64 d)).put 5 (.bool o)).put 6 (.bool false)
  simpa [Dbx, Dl.cs] using this

theorem Dbx.low {w : World} {b : Nat} {x : Dl} (h : Dbx w b x) (n d : Int) (o : Bool) : Dbx (((w.setCell ⟨b, 0, none⟩ (.int .i64 n)).setCell ⟨b, 1, none⟩ (.int .i64 d)).setCell ⟨b, 4, none⟩ (.bool o)) b { x with ln := n, ld := d, lo := o } := by
  have := ((Drow.put h 0 (.int .i64 n)).put 1 (.int .i64 d)).put 4 (.bool o)
  simpa [Dbx, Dl.cs] using this

theorem below_seven {B b : Nat} {w w2 : World} (h : Below B w w2) (hb : B ≤ b) (v0 v1 v2 v3 v4 v5 v6 : Value) : Below B w (((((((w2.setCell ⟨b, 0, none⟩ v0).setCell ⟨b, 1, none⟩ v1).setCell ⟨b, 2, none⟩ v2).setCell ⟨b, 3, none⟩ v3).setCell ⟨b, 4, none⟩ v4).setCell ⟨b, 5, none⟩ v5).setCell ⟨b, 6, none⟩ v6) :=
  ((((((h.setCell hb v0).setCell hb v1).setCell hb v2).setCell hb v3).setCell hb v4).setCell hb v5).setCell hb v6

/-- The interval at b has become x; else nothing from before has turned. -/
def WSt (w0 : World) (b : Nat) (x : Dl) (w : World) : Prop := Dbx w b x ∧ w0.grownBy w (some b)

theorem WSt.on {w0 w w' : World} {b : Nat} {x : Dl} (h : WSt w0 b x w) (hb : Below w.heap.size w w') : WSt w0 b x w' :=
  ⟨h.1.kept hb, grown_trans h.2 ⟨hb.os, hb.tape, hb.output, hb.size, fun k hk _ => hb.block k hk⟩⟩

theorem grown_put3 (w : World) (b i j k : Nat) (u v x : Value) : w.grownBy (((w.setCell ⟨b, i, none⟩ u).setCell ⟨b, j, none⟩ v).setCell ⟨b, k, none⟩ x) (some b) :=
  grown_trans (grown_trans (grown_put _ _ _ _) (grown_put _ _ _ _)) (grown_put _ _ _ _)

theorem WSt.high {w0 w : World} {b : Nat} {x : Dl} (h : WSt w0 b x w) (n d : Int) (o : Bool) : WSt w0 b { x with hn := n, hd := d, ho := o, nh := false } ((((w.setCell ⟨b, 2, none⟩ (.int .i64 n)).setCell ⟨b, 3, none⟩ (.int .i64 d)).setCell ⟨b, 5, none⟩ (.bool o)).setCell ⟨b, 6, none⟩ (.bool false)) :=
  ⟨h.1.high n d o, grown_trans h.2 (grown_trans (grown_put3 _ _ _ _ _ _ _ _) (grown_put _ _ _ _))⟩

theorem WSt.low {w0 w : World} {b : Nat} {x : Dl} (h : WSt w0 b x w) (n d : Int) (o : Bool) : WSt w0 b { x with ln := n, ld := d, lo := o } (((w.setCell ⟨b, 0, none⟩ (.int .i64 n)).setCell ⟨b, 1, none⟩ (.int .i64 d)).setCell ⟨b, 4, none⟩ (.bool o)) :=
  ⟨h.1.low n d o, grown_trans h.2 (grown_put3 _ _ _ _ _ _ _ _)⟩

theorem Pair.grown {w w' : World} {b g : Nat} {x y : Int} (h : Pair w b x y) (hg : w.grownBy w' (some g)) (hne : b ≠ g) : Pair w' b x y :=
  ⟨⟨hg.cell h.1.1 (by simpa using hne), (World.frozen?_of_block (hg.block _ h.1.lt (by simpa using hne))).trans h.1.2⟩, ⟨hg.cell h.2.1 (by simpa using hne), (World.frozen?_of_block (hg.block _ h.2.lt (by simpa using hne))).trans h.2.2⟩⟩

theorem Dbx.grown {w w' : World} {b g : Nat} {x : Dl} (h : Dbx w b x) (hg : w.grownBy w' (some g)) (hne : b ≠ g) : Dbx w' b x := (hg.block b (Drow.lt h) (by simpa using hne)).trans h

/-- What within makes of an interval by an upper bound, and by a lower one. -/
def wuL (x : Dl) (n d u : Int) : Dl := if spE u = 0 then (if x.nh || lsB (shN n d (spC u)) (shD n d (spC u)) x.hn x.hd (spS u) then { x with hn := shN n d (spC u), hd := shD n d (spC u), ho := spS u, nh := false } else x) else x

def wuE (n d u : Int) : Int := if spE u = 0 then shE n d (spC u) else 0

def wlL (x : Dl) (n d l : Int) : Dl := if spE l = 0 then (if lsB x.ln x.ld (shN n d (-spC l)) (shD n d (-spC l)) (spS l) then { x with ln := shN n d (-spC l), ld := shD n d (-spC l), lo := spS l } else x) else x

def wlE (n d l : Int) : Int := if spE l = 0 then shE n d (-spC l) else 0

def wiE (n d u l : Int) : Int := if wuE n d u ≠ 0 then wuE n d u else wlE n d l

def wiL (x : Dl) (n d u l : Int) : Dl := if wiE n d u l = 0 then wlL (wuL x n d u) n d l else Dl.zero

/-- The numbers fit. -/
def Dl.Ok (x : Dl) : Prop := I64 x.ln ∧ I64 x.ld ∧ I64 x.hn ∧ I64 x.hd

theorem opNum_64 (v : Bool) (p q : Int) : I64 (opNum v p q) := by
  unfold opNum I64
  cases v
  · simp
  · have := mkNum_bd p q
    simp only [if_true]; omega

theorem opDen_64 (v : Bool) (p q : Int) : I64 (opDen v p q) := by
  unfold opDen I64
  cases v
  · simp
  · have := mkDen_bd p q
    simp only [if_true]; omega

theorem wuL_ok {x : Dl} (h : x.Ok) (n d u : Int) : (wuL x n d u).Ok := by
  unfold wuL
  obtain ⟨h1, h2, h3, h4⟩ := h
  split
  · split
    · exact ⟨h1, h2, opNum_64 _ _ _, opDen_64 _ _ _⟩
    · exact ⟨h1, h2, h3, h4⟩
  · exact ⟨h1, h2, h3, h4⟩

theorem wlL_ok {x : Dl} (h : x.Ok) (n d l : Int) : (wlL x n d l).Ok := by
  unfold wlL
  obtain ⟨h1, h2, h3, h4⟩ := h
  split
  · split
    · exact ⟨opNum_64 _ _ _, opDen_64 _ _ _, h3, h4⟩
    · exact ⟨h1, h2, h3, h4⟩
  · exact ⟨h1, h2, h3, h4⟩

theorem lv_two' {a : Int} (h : lvB a = true) : a = 1099511627776 ∨ (-2147483648 ≤ a ∧ a ≤ 2147483649) := by unfold lvB at h; simpa using h

theorem spC_bd (l : Int) : -1073741824 ≤ spC l ∧ spC l ≤ 1073741824 := by
  unfold spC
  split
  · rename_i h
    simp only [Bool.and_eq_true, Bool.not_eq_true'] at h
    have := lv_two' h.1
    have h2 := h.2
    unfold noB at h2
    simp at h2
    omega
  · omega

set_option maxRecDepth 100000 in
set_option maxHeartbeats 4000000 in
theorem within_gen (x : Dl) (n d u l : Int) (w : World) (hx : x.Ok) (hn : I64 n) (hd : I64 d) (hu : I64 u) (hl : I64 l) :
    Calls Try.prog 105 #[.agg x.cs, .agg #[.int .i64 n, .int .i64 d], .int .i64 u, .int .i64 l] w (Made (.tuple #[.agg (wiL x n d u l).cs, .int .i64 (wiE n d u l)]) w) := by
  have SU := Lib.hid (fun W => limSplit_any u W hu)
  have SL := Lib.hid (fun W => limSplit_any l W hl)
  have bu := spC_bd u
  have bl := spC_bd l
  have SHU := Lib.hid (fun W => shift_any n d (spC u) W hn hd (by omega) (by omega))
  have SHL := Lib.hid (fun W => shift_any n d (-spC l) W hn hd (by omega) (by omega))
  have BU := Lib.hid (fun W => isbelow_any (shN n d (spC u)) (shD n d (spC u)) x.hn x.hd (spS u) W (opNum_64 _ _ _) (opDen_64 _ _ _) hx.2.2.1 hx.2.2.2)
  have hy := wuL_ok hx n d u
  have BL := Lib.hid (fun W => isbelow_any (wuL x n d u).ln (wuL x n d u).ld (shN n d (-spC l)) (shD n d (-spC l)) (spS l) W hy.1 hy.2.1 (opNum_64 _ _ _) (opDen_64 _ _ _))
  have HU := Lib.hid (show wuL x n d u = if spE u = 0 then (if x.nh || lsB (shN n d (spC u)) (shD n d (spC u)) x.hn x.hd (spS u) then { x with hn := shN n d (spC u), hd := shD n d (spC u), ho := spS u, nh := false } else x) else x from rfl)
  have HL := Lib.hid (show wlL (wuL x n d u) n d l = if spE l = 0 then (if lsB (wuL x n d u).ln (wuL x n d u).ld (shN n d (-spC l)) (shD n d (-spC l)) (spS l) then { wuL x n d u with ln := shN n d (-spC l), ld := shD n d (-spC l), lo := spS l } else wuL x n d u) else wuL x n d u from rfl)
  have HUE := Lib.hid (show wuE n d u = if spE u = 0 then shE n d (spC u) else 0 from rfl)
  have HLE := Lib.hid (show wlE n d l = if spE l = 0 then shE n d (-spC l) else 0 from rfl)
  have HIE := Lib.hid (show wiE n d u l = if wuE n d u ≠ 0 then wuE n d u else wlE n d l from rfl)
  have HIL := Lib.hid (show wiL x n d u l = if wiE n d u l = 0 then wlL (wuL x n d u) n d l else Dl.zero from rfl)
  generalize lsB (shN n d (spC u)) (shD n d (spC u)) x.hn x.hd (spS u) = su at *
  generalize lsB (wuL x n d u).ln (wuL x n d u).ld (shN n d (-spC l)) (shD n d (-spC l)) (spS l) = sl at *
  generalize wlL (wuL x n d u) n d l = z at *
  generalize wuL x n d u = y at *
  generalize wuE n d u = ue at *
  generalize wlE n d l = le at *
  generalize wiE n d u l = ie at *
  generalize wiL x n d u l = r at *
  generalize shN n d (spC u) = an at *
  generalize shD n d (spC u) = ad at *
  generalize shE n d (spC u) = ae at *
  generalize shN n d (-spC l) = bn at *
  generalize shD n d (-spC l) = bd at *
  generalize shE n d (-spC l) = be at *
  generalize spC u = uc at *
  generalize spC l = lc at *
  generalize spS u = us at *
  generalize spS l = ls at *
  generalize spE u = uq at *
  generalize spE l = lq at *
  obtain ⟨w0, hw0⟩ : ∃ w0, w0 = ((w.alloc (.cells x.cs 64)).alloc (.cells #[.int .i64 n, .int .i64 d] 52)).alloc (.cells Dl.zero.cs 64) := ⟨_, rfl⟩
  have dx : Dbx w0 w.heap.size x := by rw [hw0]; exact ((Drow.made _ _).alloc _).alloc _
  have ps : Pair w0 (w.heap.size + 1) n d := by
    rw [hw0]
    have := (Pair.made (w.alloc (.cells x.cs 64)) n d 52).alloc (.cells Dl.zero.cs 64)
    simpa using this
  have dr : Dbx w0 (w.heap.size + 1 + 1) Dl.zero := by
    rw [hw0]
    have := Drow.made ((w.alloc (.cells x.cs 64)).alloc (.cells #[.int .i64 n, .int .i64 d] 52)) Dl.zero.cs
    simpa [Dbx] using this
  have E0 := Lib.hid (show Below w.heap.size w w0 by rw [hw0]; exact past_three (Below.refl _ _))
  have z0 : w0.heap.size = w.heap.size + 3 := by rw [hw0]; simp
  have DX := Lib.hid dx
  have PS := Lib.hid ps
  have DR := Lib.hid dr
  simp only [Dl.cs, Dl.zero] at hw0
  have HW0 := Lib.hid hw0
  clear dx ps dr hw0 hn hd hu hl hx hy
  unfold Dl.cs
  go_enter Try.func105, Try.ntmps105
  go_upto_region 1 with (fail)
  rw [← HW0.out]
  go_upto_if 27 with (refine (SU.out _).mono ?_; rintro e w1 ⟨rfl, hw⟩; rw [hw]; clear hw w1)
  have HS0 := Lib.hid (show WSt w0 w.heap.size x w0 from ⟨DX.out, World.grownBy.refl _ _⟩)
  have KR := Lib.hid (show ∀ q W, WSt w0 w.heap.size q W → Dbx W (w.heap.size + 1 + 1) Dl.zero from fun q W h => DR.out.grown h.2 (by omega))
  have KP := Lib.hid (show ∀ q W, WSt w0 w.heap.size q W → Pair W (w.heap.size + 1) n d from fun q W h => PS.out.grown h.2 (by omega))
  have KE := Lib.hid (show ∀ q W, WSt w0 w.heap.size q W → Below w.heap.size w W from fun q W h => grown_over E0.out h.2 (Nat.le_refl _))
  go_cut [] (fun wx => Hid (ue = 0 ∧ WSt w0 w.heap.size y wx))
  case first =>
    by_cases hq : uq = 0
    case neg =>
      have D : (uq == 0) = false := by simpa using hq
      have HY := Lib.hid (show ue = 0 ∧ y = x by rw [HUE.out, HU.out, if_neg hq, if_neg hq]; exact ⟨rfl, rfl⟩)
      clear hq
      go_wp2_with fail
      go_meet
      case rel => exact Lib.hid ⟨HY.out.1, by rw [HY.out.2]; exact HS0.out⟩
    case pos =>
      have D : (uq == 0) = true := by simpa using hq
      have HY0 := Lib.hid (show ue = ae ∧ y = if x.nh || su then { x with hn := an, hd := ad, ho := us, nh := false } else x by rw [HUE.out, HU.out, if_pos hq, if_pos hq]; exact ⟨rfl, rfl⟩)
      clear hq
      obtain ⟨p0, p1, p2, p3⟩ := PS.out.facts
      go_wp2_with fail
      refine (SHU.out _).mono ?_
      rintro e w1 ⟨rfl, hb1⟩
      clear p0 p1 p2 p3
      obtain ⟨w2, hw2⟩ : ∃ w2, w2 = w1.alloc (.cells #[.int .i64 an, .int .i64 ad] 52) := ⟨_, rfl⟩
      have pc : Pair w2 w1.heap.size an ad := by rw [hw2]; exact Pair.made _ _ _ _
      have S2 := Lib.hid (show WSt w0 w.heap.size x w2 by rw [hw2]; exact HS0.out.on (hb1.alloc hb1.size _))
      have z1 := hb1.size
      have PC := Lib.hid pc
      have HW2 := Lib.hid hw2
      clear hb1 hw2 pc
      go_upto_region 4 with (fail)
      rw [← HW2.out]
      by_cases he : ae = 0
      case neg =>
        have DE : (ae != 0) = true := by simpa using he
        have HF := Lib.hid (show ie = ae ∧ r = Dl.zero by
          have h1 : ie = ae := by rw [HIE.out, HY0.out.1, if_pos he]
          exact ⟨h1, by rw [HIL.out, h1, if_neg he]⟩)
        clear he
        obtain ⟨r0, r1, r2, r3, r4, r5, r6⟩ := (KR.out _ _ S2.out).facts
        obtain ⟨f0, f1, f2, f3, f4, f5, f6⟩ := (KR.out _ _ S2.out).frees
        go_wp2_with fail
        rw [HF.out.1, HF.out.2]
        refine bodyPost_ret (v := .tuple #[.agg Dl.zero.cs, .int .i64 ae]) (by simp [results, Try.results105, go_sem, Dl.cs, Dl.zero, r0, r1, r2, r3, r4, r5, r6]) rfl ⟨rfl, ?_⟩
        exact below_seven (KE.out _ _ S2.out) (by omega) _ _ _ _ _ _ _
      case pos =>
        have HUE0 := Lib.hid (show ue = 0 by rw [HY0.out.1, he])
        have HYS := Lib.hid (show (x.nh || su) = true → y = { x with hn := an, hd := ad, ho := us, nh := false } from fun h => by rw [HY0.out.2, if_pos h])
        have HYK := Lib.hid (show (x.nh || su) = false → y = x from fun h => by rw [HY0.out.2, h]; rfl)
        subst he
        obtain ⟨q0, q1, q2, q3, q4, q5, q6⟩ := S2.out.1.facts
        obtain ⟨g0, g1, g2, g3, g4, g5, g6⟩ := S2.out.1.frees
        obtain ⟨c0, c1, c2, c3⟩ := PC.out.facts
        obtain ⟨xln, xld, xhn, xhd, xlo, xho, xnh⟩ := x
        simp only at q0 q1 q2 q3 q4 q5 q6 BU HYS HYK
        cases xnh
        case true =>
          have HZ := Lib.hid (HYS.out rfl)
          go_wp2_with fail
          go_meet
          case rel => exact Lib.hid ⟨HUE0.out, by rw [HZ.out]; exact S2.out.high an ad us⟩
        case false =>
          cases su
          case true =>
            have HZ := Lib.hid (HYS.out rfl)
            go_wp2_with fail
            refine (BU.out _).mono ?_
            rintro e w3 ⟨rfl, hb3⟩
            have S3 := Lib.hid (S2.out.on hb3)
            have PC3 := Lib.hid (PC.out.kept hb3)
            clear hb3 q0 q1 q2 q3 q4 q5 q6 g0 g1 g2 g3 g4 g5 g6 c0 c1 c2 c3
            obtain ⟨q0, q1, q2, q3, q4, q5, q6⟩ := S3.out.1.facts
            obtain ⟨g0, g1, g2, g3, g4, g5, g6⟩ := S3.out.1.frees
            obtain ⟨c0, c1, c2, c3⟩ := PC3.out.facts
            go_wp2_with fail
            go_meet
            case rel => exact Lib.hid ⟨HUE0.out, by rw [HZ.out]; exact S3.out.high an ad us⟩
          case false =>
            have HZ := Lib.hid (HYK.out rfl)
            go_wp2_with fail
            refine (BU.out _).mono ?_
            rintro e w3 ⟨rfl, hb3⟩
            have S3 := Lib.hid (S2.out.on hb3)
            clear hb3 q0 q1 q2 q3 q4 q5 q6 g0 g1 g2 g3 g4 g5 g6 c0 c1 c2 c3
            go_wp2_with fail
            go_meet
            case rel => exact Lib.hid ⟨HUE0.out, by rw [HZ.out]; exact S3.out⟩
  case rest =>
    have HU0 := Lib.hid hcut.out.1
    have S1 := Lib.hid hcut.out.2
    have HIE2 := Lib.hid (show ie = le by rw [HIE.out, HU0.out]; rfl)
    clear hcut BU
    by_cases hq : lq = 0
    case neg =>
      have D : (lq == 0) = false := by simpa using hq
      have HF := Lib.hid (show ie = 0 ∧ r = y by
        have h1 : ie = 0 := by rw [HIE2.out, HLE.out, if_neg hq]
        exact ⟨h1, by rw [HIL.out, h1, if_pos rfl, HL.out, if_neg hq]⟩)
      clear hq
      obtain ⟨q0, q1, q2, q3, q4, q5, q6⟩ := S1.out.1.facts
      obtain ⟨r0, r1, r2, r3, r4, r5, r6⟩ := (KR.out _ _ S1.out).facts
      obtain ⟨f0, f1, f2, f3, f4, f5, f6⟩ := (KR.out _ _ S1.out).frees
      go_wp2_with (refine (SL.out _).mono ?_; rintro e w1 ⟨rfl, hw⟩; rw [hw]; clear hw w1)
      rw [HF.out.1, HF.out.2]
      refine bodyPost_ret (v := .tuple #[.agg y.cs, .int .i64 0]) (by simp [results, Try.results105, go_sem, Dl.cs, r0, r1, r2, r3, r4, r5, r6]) rfl ⟨rfl, ?_⟩
      exact below_seven (KE.out _ _ S1.out) (by omega) _ _ _ _ _ _ _
    case pos =>
      have D : (lq == 0) = true := by simpa using hq
      have HF0 := Lib.hid (show ie = be by rw [HIE2.out, HLE.out, if_pos hq])
      have HF1 := Lib.hid (show be = 0 → r = if sl then { y with ln := bn, ld := bd, lo := ls } else y from fun h => by rw [HIL.out, HF0.out, h, if_pos rfl, HL.out, if_pos hq])
      clear hq
      obtain ⟨p0, p1, p2, p3⟩ := (KP.out _ _ S1.out).facts
      go_wp2_with (refine (SL.out _).mono ?_; rintro e w1 ⟨rfl, hw⟩; rw [hw]; clear hw w1)
      refine (SHL.out _).mono ?_
      rintro e w1 ⟨rfl, hb1⟩
      clear p0 p1 p2 p3
      obtain ⟨w2, hw2⟩ : ∃ w2, w2 = w1.alloc (.cells #[.int .i64 bn, .int .i64 bd] 52) := ⟨_, rfl⟩
      have pc : Pair w2 w1.heap.size bn bd := by rw [hw2]; exact Pair.made _ _ _ _
      have S2 := Lib.hid (show WSt w0 w.heap.size y w2 by rw [hw2]; exact S1.out.on (hb1.alloc hb1.size _))
      have PC := Lib.hid pc
      have HW2 := Lib.hid hw2
      clear hb1 hw2 pc
      go_upto_region 11 with (fail)
      rw [← HW2.out]
      by_cases he : be = 0
      case neg =>
        have DE : (be != 0) = true := by simpa using he
        have HF := Lib.hid (show r = Dl.zero by rw [HIL.out, HF0.out, if_neg he])
        clear he
        obtain ⟨r0, r1, r2, r3, r4, r5, r6⟩ := (KR.out _ _ S2.out).facts
        obtain ⟨f0, f1, f2, f3, f4, f5, f6⟩ := (KR.out _ _ S2.out).frees
        go_wp2_with fail
        rw [HF0.out, HF.out]
        refine bodyPost_ret (v := .tuple #[.agg Dl.zero.cs, .int .i64 be]) (by simp [results, Try.results105, go_sem, Dl.cs, Dl.zero, r0, r1, r2, r3, r4, r5, r6]) rfl ⟨rfl, ?_⟩
        exact below_seven (KE.out _ _ S2.out) (by omega) _ _ _ _ _ _ _
      case pos =>
        have HF := Lib.hid (HF1.out he)
        subst he
        obtain ⟨q0, q1, q2, q3, q4, q5, q6⟩ := S2.out.1.facts
        obtain ⟨c0, c1, c2, c3⟩ := PC.out.facts
        cases sl
        case true =>
          have HR := Lib.hid (show r = { y with ln := bn, ld := bd, lo := ls } from HF.out)
          go_wp2_with fail
          refine (BL.out _).mono ?_
          rintro e w3 ⟨rfl, hb3⟩
          have S3 := Lib.hid (S2.out.on hb3)
          have S4 := Lib.hid (S3.out.low bn bd ls)
          have PC3 := Lib.hid (PC.out.kept hb3)
          clear hb3 q0 q1 q2 q3 q4 q5 q6 c0 c1 c2 c3
          obtain ⟨g0, g1, g2, g3, g4, g5, g6⟩ := S3.out.1.frees
          obtain ⟨h0, h1, h2, h3, h4, h5, h6⟩ := S3.out.1.facts
          obtain ⟨c0, c1, c2, c3⟩ := PC3.out.facts
          go_upto_region 15 with (fail)
          obtain ⟨w4, hw4⟩ : ∃ w4, w4 = (((w3.setCell ⟨w.heap.size, 0, none⟩ (.int .i64 bn)).setCell ⟨w.heap.size, 1, none⟩ (.int .i64 bd)).setCell ⟨w.heap.size, 4, none⟩ (.bool ls)) := ⟨_, rfl⟩
          rw [← hw4] at S4
          rw [← hw4]
          clear hw4 g0 g1 g2 g3 g4 g5 g6 h0 h1 h2 h3 h4 h5 h6 c0 c1 c2 c3
          obtain ⟨q0, q1, q2, q3, q4, q5, q6⟩ := S4.out.1.facts
          obtain ⟨r0, r1, r2, r3, r4, r5, r6⟩ := (KR.out _ _ S4.out).facts
          obtain ⟨f0, f1, f2, f3, f4, f5, f6⟩ := (KR.out _ _ S4.out).frees
          go_wp2_with fail
          rw [HF0.out, HR.out]
          refine bodyPost_ret (v := .tuple #[.agg ({ y with ln := bn, ld := bd, lo := ls } : Dl).cs, .int .i64 0]) (by simp [results, Try.results105, go_sem, Dl.cs, r0, r1, r2, r3, r4, r5, r6]) rfl ⟨rfl, ?_⟩
          exact below_seven (KE.out _ _ S4.out) (by omega) _ _ _ _ _ _ _
        case false =>
          have HR := Lib.hid (show r = y from HF.out)
          go_wp2_with fail
          refine (BL.out _).mono ?_
          rintro e w3 ⟨rfl, hb3⟩
          have S3 := Lib.hid (S2.out.on hb3)
          clear hb3 q0 q1 q2 q3 q4 q5 q6 c0 c1 c2 c3
          obtain ⟨q0, q1, q2, q3, q4, q5, q6⟩ := S3.out.1.facts
          obtain ⟨r0, r1, r2, r3, r4, r5, r6⟩ := (KR.out _ _ S3.out).facts
          obtain ⟨f0, f1, f2, f3, f4, f5, f6⟩ := (KR.out _ _ S3.out).frees
          go_wp2_with fail
          rw [HF0.out, HR.out]
          refine bodyPost_ret (v := .tuple #[.agg y.cs, .int .i64 0]) (by simp [results, Try.results105, go_sem, Dl.cs, r0, r1, r2, r3, r4, r5, r6]) rfl ⟨rfl, ?_⟩
          exact below_seven (KE.out _ _ S3.out) (by omega) _ _ _ _ _ _ _
end Go.Proofs.Ytbnebinpemejlaa

namespace Go.Proofs.Ytbnebinpemejlaa

def smp : Nat → Int → Int → Int → Int → Int × Int
  | 0, _, _, _, _ => (0, 1)
  | k + 1, p, q, r, s =>
    if (p / q + 1) * s < r then (p / q + 1, 1)
    else ((p / q) * (smp k s (r - (p / q) * s) q (p - (p / q) * q)).1 + (smp k s (r - (p / q) * s) q (p - (p / q) * q)).2,
      (smp k s (r - (p / q) * s) q (p - (p / q) * q)).1)

/-- What the arguments of a call have in common: p / q is less than r / s (where s = 0 is no upper end). -/
structure Ends (p q r s : Int) : Prop where
  q1 : 1 ≤ q
  s0 : 0 ≤ s
  lt : p * s < r * q

theorem fl (p q : Int) (h : 1 ≤ q) : (p / q) * q ≤ p ∧ p < (p / q) * q + q := by
  have h1 := Int.emod_nonneg p (show q ≠ 0 by omega)
  have h2 := Int.emod_lt_of_pos p (show 0 < q by omega)
  have h3 := Int.mul_ediv_add_emod p q
  have h4 := Int.mul_comm q (p / q)
  omega

/-- If no integer lies between them, the arguments of the call of itself are ends again, and lesser. -/
theorem Ends.next {p q r s : Int} (h : Ends p q r s) (hn : ¬ (p / q + 1) * s < r) :
    1 ≤ s ∧ 1 ≤ r - (p / q) * s ∧ r - (p / q) * s ≤ s ∧ 0 ≤ p - (p / q) * q ∧ p - (p / q) * q < q ∧ Ends s (r - (p / q) * s) q (p - (p / q) * q) := by
  obtain ⟨q1, s0, lt⟩ := h
  obtain ⟨f1, f2⟩ := fl p q q1
  generalize p / q = low at *
  have hs : 1 ≤ s := by
    rcases Int.lt_or_le 0 s with h | h
    · omega
    · exfalso
      have : s = 0 := by omega
      subst this
      have h0 : 0 < r * q := by simpa using lt
      have h1 : r ≤ 0 := by simpa using hn
      have h2 : r * q ≤ 0 * q := Int.mul_le_mul_of_nonneg_right h1 (by omega)
      omega
  have key : s * (p - low * q) < q * (r - low * s) := by grind
  have hr : 1 ≤ r - low * s := by
    rcases Int.lt_or_le 0 (r - low * s) with h | h
    · omega
    · exfalso
      have h1 : q * (r - low * s) ≤ q * 0 := Int.mul_le_mul_of_nonneg_left h (by omega)
      have h2 : 0 ≤ s * (p - low * q) := Int.mul_nonneg (by omega) (by omega)
      omega
  refine ⟨hs, hr, ?_, by omega, by omega, hr, by omega, key⟩
  grind

/-- The result lies between the ends, and nothing between them is simpler. -/
def Best (p q r s x y : Int) : Prop :=
  1 ≤ y ∧ p * y < x * q ∧ x * s < r * y ∧ ∀ u v : Int, 1 ≤ v → p * v < u * q → u * s < r * v → y ≤ v ∧ (y = v → x ≤ u) ∧ (0 ≤ p → x ≤ u)

theorem smp_best (k : Nat) : ∀ p q r s : Int, Ends p q r s → q + s ≤ k → Best p q r s (smp k p q r s).1 (smp k p q r s).2 := by
  induction k with
  | zero => intro p q r s h hk; have := h.q1; have := h.s0; omega
  | succ k ih =>
    intro p q r s h hk
    unfold smp
    by_cases hn : (p / q + 1) * s < r
    · rw [if_pos hn]
      obtain ⟨f1, f2⟩ := fl p q h.q1
      have q1 := h.q1
      generalize p / q = low at *
      refine ⟨by simp, by simp; grind, by simpa using hn, ?_⟩
      intro u v hv h1 h2
      have h3 : low * v < u := by
        rcases Int.lt_or_le (low * v) u with h | h
        · exact h
        · exfalso
          have a1 : u * q ≤ (low * v) * q := Int.mul_le_mul_of_nonneg_right h (by omega)
          have a2 : (low * q) * v ≤ p * v := Int.mul_le_mul_of_nonneg_right f1 (by omega)
          grind
      refine ⟨hv, ?_, ?_⟩
      · intro e
        have e : v = 1 := by simpa using e.symm
        subst e; simp at h3 ⊢; omega
      · intro hp
        have h0 : 0 ≤ low := by
          rcases Int.lt_or_le low 0 with h | h
          · exfalso
            have : low * q ≤ (-1) * q := Int.mul_le_mul_of_nonneg_right (by omega) (by omega)
            omega
          · exact h
        have : low * 1 ≤ low * v := Int.mul_le_mul_of_nonneg_left hv h0
        simp; omega
    · rw [if_neg hn]
      obtain ⟨s1, r1, r2, g0, g1, hE⟩ := h.next hn
      have q1 := h.q1
      have lt := h.lt
      obtain ⟨f1, f2⟩ := fl p q h.q1
      have IH := ih s (r - (p / q) * s) q (p - (p / q) * q) hE (by omega)
      generalize hden : (smp k s (r - (p / q) * s) q (p - (p / q) * q)).1 = den at *
      generalize hnum : (smp k s (r - (p / q) * s) q (p - (p / q) * q)).2 = num at *
      clear hden hnum ih
      generalize p / q = low at *
      obtain ⟨n1, b1, b2, mn⟩ := IH
      have d1 : 1 ≤ den := by
        rcases Int.lt_or_le 0 den with h | h
        · omega
        · exfalso
          have a1 : den * (r - low * s) ≤ 0 * (r - low * s) := Int.mul_le_mul_of_nonneg_right h (by omega)
          have a2 : 0 ≤ s * num := Int.mul_nonneg (by omega) (by omega)
          omega
      refine ⟨d1, ?_, ?_, ?_⟩
      · show p * den < (low * den + num) * q
        grind
      · show (low * den + num) * s < r * den
        grind
      · intro u v hv h1 h2
        show den ≤ v ∧ (den = v → low * den + num ≤ u) ∧ (0 ≤ p → low * den + num ≤ u)
        have ua : 1 ≤ u - low * v := by
          rcases Int.lt_or_le 0 (u - low * v) with h | h
          · omega
          · exfalso
            have a1 : (u - low * v) * q ≤ 0 * q := Int.mul_le_mul_of_nonneg_right h (by omega)
            have a2 : 0 ≤ v * (p - low * q) := Int.mul_nonneg (by omega) (by omega)
            grind
        obtain ⟨m1, m2, m3⟩ := mn v (u - low * v) ua (by grind) (by grind)
        have m4 := m3 (by omega)
        refine ⟨m4, ?_, ?_⟩
        · intro e; subst e; omega
        · intro hp
          have h0 : 0 ≤ low := by
            rcases Int.lt_or_le low 0 with h | h
            · exfalso
              have : low * q ≤ (-1) * q := Int.mul_le_mul_of_nonneg_right (by omega) (by omega)
              omega
            · exact h
          have : low * den ≤ low * v := Int.mul_le_mul_of_nonneg_left m4 h0
          omega

/-- The denominator is at most the sum of both. -/
theorem smp_den (k : Nat) (p q r s : Int) (h : Ends p q r s) (hk : q + s ≤ k) : 1 ≤ (smp k p q r s).2 ∧ (smp k p q r s).2 ≤ q + s := by
  obtain ⟨h1, _, _, h4⟩ := smp_best k p q r s h hk
  obtain ⟨q1, s0, lt⟩ := h
  exact ⟨h1, (h4 (p + r) (q + s) (by omega) (by grind) (by grind)).1⟩
end Go.Proofs.Ytbnebinpemejlaa

namespace Go.Proofs.Ytbnebinpemejlaa
open Go.RowKit

/-- The arguments of a call of simplest, within their limits. -/
structure Args (p q r s : Int) : Prop where
  p1 : -2147483647 ≤ p
  p2 : p ≤ 2147483647
  r1 : -2147483647 ≤ r
  r2 : r ≤ 2147483647
  q2 : q ≤ 2147483647
  s2 : s ≤ 2147483647
  ends : Ends p q r s

theorem lowB (p q : Int) (h1 : -2147483647 ≤ p) (h2 : p ≤ 2147483647) (hq : 1 ≤ q) : -2147483647 ≤ p / q ∧ p / q ≤ 2147483647 := by
  constructor
  · rw [Int.le_ediv_iff_mul_le (by omega)]
    have : (-2147483647 : Int) * q ≤ -2147483647 * 1 := by omega
    omega
  · apply Int.ediv_le_of_le_mul (by omega)
    have : (2147483647 : Int) * 1 ≤ 2147483647 * q := by omega
    omega

theorem Args.next {p q r s : Int} (h : Args p q r s) (hn : ¬ (p / q + 1) * s < r) : Args s (r - (p / q) * s) q (p - (p / q) * q) := by
  obtain ⟨s1, r1, r2, g0, g1, hE⟩ := h.ends.next hn
  have := h.q2
  have := h.s2
  have := h.ends.q1
  exact ⟨by omega, by omega, by omega, by omega, by omega, by omega, hE⟩

theorem mulB {x y : Int} (x1 : -2147483647 ≤ x) (x2 : x ≤ 2147483647) (y1 : 0 ≤ y) (y2 : y ≤ 4294967294) :
    -9223372028264841218 ≤ x * y ∧ x * y ≤ 9223372028264841218 := by
  have h : (x * y).natAbs ≤ 2147483647 * 4294967294 := by
    rw [Int.natAbs_mul]; exact Nat.mul_le_mul (by omega) (by omega)
  omega

/-- In a call that calls itself: the numbers that come back. -/
theorem inner_bd (k : Nat) {p q r s : Int} (h : Args p q r s) (hk : q + s ≤ (k + 1 : Nat)) (hn : ¬ (p / q + 1) * s < r) :
    1 ≤ (smp k s (r - (p / q) * s) q (p - (p / q) * q)).1 ∧ (smp k s (r - (p / q) * s) q (p - (p / q) * q)).1 ≤ 4294967294 ∧
    1 ≤ (smp k s (r - (p / q) * s) q (p - (p / q) * q)).2 ∧ (smp k s (r - (p / q) * s) q (p - (p / q) * q)).2 ≤ 4294967294 := by
  have h1 := smp_den (k + 1) p q r s h.ends hk
  have e : (smp (k + 1) p q r s).2 = (smp k s (r - (p / q) * s) q (p - (p / q) * q)).1 := by
    rw [smp, if_neg hn]
  rw [e] at h1
  obtain ⟨s1, r1, r2, g0, g1, hE⟩ := h.ends.next hn
  have h2 := smp_den k _ _ _ _ hE (by omega)
  have := h.q2
  have := h.s2
  have := h.ends.q1
  omega

theorem smp_rng (k : Nat) {p q r s : Int} (h : Args p q r s) (hk : q + s ≤ k) : I64 (smp k p q r s).1 ∧ 1 ≤ (smp k p q r s).2 ∧ (smp k p q r s).2 ≤ 4294967294 := by
  have hd := smp_den k p q r s h.ends hk
  have := h.q2
  have := h.s2
  refine ⟨?_, hd.1, by omega⟩
  match k, hk with
  | 0, hk => exfalso; have := h.ends.q1; have := h.ends.s0; omega
  | k + 1, hk =>
    have lb := lowB p q h.p1 h.p2 h.ends.q1
    unfold smp
    by_cases hn : (p / q + 1) * s < r
    · rw [if_pos hn]; unfold I64; simp; omega
    · rw [if_neg hn]
      have ib := inner_bd k h hk hn
      have mb := mulB lb.1 lb.2 (show 0 ≤ (smp k s (r - (p / q) * s) q (p - (p / q) * q)).1 by omega) ib.2.1
      unfold I64
      simp only
      omega

set_option maxHeartbeats 400000 in
theorem simplest_any (k : Nat) : ∀ (p q r s : Int) (w : World), Args p q r s → q + s ≤ k →
    Calls Try.prog 148 #[.int .i64 p, .int .i64 q, .int .i64 r, .int .i64 s] w fun e w' => e = .returned (.tuple #[.int .i64 (smp k p q r s).1, .int .i64 (smp k p q r s).2]) ∧ w = w' := by
  induction k with
  | zero => intro p q r s w h hk; exfalso; have := h.ends.q1; have := h.ends.s0; omega
  | succ k ih =>
    intro p q r s w h hk
    have IH := Lib.hid ih
    clear ih
    obtain ⟨lb1, lb2⟩ := lowB p q h.p1 h.p2 h.ends.q1
    have p1 := h.p1
    have p2 := h.p2
    have r1 := h.r1
    have r2 := h.r2
    have q1 := h.ends.q1
    have q2 := h.q2
    have s1 := h.ends.s0
    have s2 := h.s2
    obtain ⟨m1, m2⟩ := mul_bd lb1 lb2 (show -2147483647 ≤ s by omega) s2
    have m3 : (p / q + 1) * s = p / q * s + s := by rw [Int.add_mul]; omega
    have m4 : -4611686018427387904 ≤ (p / q + 1) * s := by omega
    have m5 : (p / q + 1) * s ≤ 4611686018427387904 := by omega
    clear m3
    obtain ⟨m6, m7⟩ := mul_bd lb1 lb2 (show -2147483647 ≤ q by omega) q2
    by_cases hn : (p / q + 1) * s < r
    · have H := Lib.hid (show smp (k + 1) p q r s = (p / q + 1, 1) by rw [smp, if_pos hn])
      go_enter Try.func148, Try.ntmps148
      go_wp2_with fail
      refine (rounded_any _ _ _ (by omega) (by omega) (by omega) (by omega)).mono ?_
      rintro e w1 ⟨rfl, rfl⟩
      generalize p / q = low at *
      go_wp2_with fail
      go_ret2
      exact ⟨by rw [H.out]; rfl, rfl⟩
    · have hA := h.next hn
      have ib := inner_bd k h hk hn
      obtain ⟨i1, i2, i3, i4⟩ := ib
      obtain ⟨b1, b2⟩ := mulB lb1 lb2 (show 0 ≤ (smp k s (r - (p / q) * s) q (p - (p / q) * q)).1 by omega) i2
      obtain ⟨s1', r1', r2', g0, g1, hE⟩ := h.ends.next hn
      have hk2 : r - p / q * s + (p - p / q * q) ≤ k := by omega
      have H := Lib.hid (show smp (k + 1) p q r s = ((p / q) * (smp k s (r - (p / q) * s) q (p - (p / q) * q)).1 + (smp k s (r - (p / q) * s) q (p - (p / q) * q)).2,
        (smp k s (r - (p / q) * s) q (p - (p / q) * q)).1) by rw [smp, if_neg hn])
      go_enter Try.func148, Try.ntmps148
      go_wp2_with fail
      refine (rounded_any _ _ _ (by omega) (by omega) (by omega) (by omega)).mono ?_
      rintro e w1 ⟨rfl, rfl⟩
      generalize p / q = low at *
      go_wp2_with fail
      refine (IH.out _ _ _ _ _ hA hk2).mono ?_
      rintro e w1 ⟨rfl, rfl⟩
      generalize (smp k s (r - low * s) q (p - low * q)).1 = den at *
      generalize (smp k s (r - low * s) q (p - low * q)).2 = num at *
      go_wp2_with fail
      go_ret2
      exact ⟨by rw [H.out]; rfl, rfl⟩
end Go.Proofs.Ytbnebinpemejlaa

namespace Go.Proofs.Ytbnebinpemejlaa
open Go.RowKit

def midB (n d m c : Int) : Bool := vldB n d && vldB m c && decide (n * c < m * d)

def midX (n d m c : Int) : Int := (smp (d + c).toNat n d m c).1

def midY (n d m c : Int) : Int := (smp (d + c).toNat n d m c).2

theorem mid_args {n d m c : Int} (h : midB n d m c = true) : Args n d m c ∧ d + c ≤ ((d + c).toNat : Int) := by
  unfold midB at h
  simp at h
  obtain ⟨⟨h1, h2⟩, h3⟩ := h
  obtain ⟨x1, x2, x3, x4⟩ := vld_bd h1
  obtain ⟨y1, y2, y3, y4⟩ := vld_bd h2
  exact ⟨⟨x3, x4, y3, y4, x2, y2, x1, by omega, h3⟩, by omega⟩

theorem cmp_as {n d m c k e : Int} (w : World) (hn : I64 n) (hd : I64 d) (hm : I64 m) (hc : I64 c) (h1 : (if (vldB n d && vldB m c) then sgn (n * c) (m * d) else 0) = k) (h2 : (if (vldB n d && vldB m c) then (0 : Int) else 2) = e) :
    Calls Try.prog 146 #[.agg #[.int .i64 n, .int .i64 d], .agg #[.int .i64 m, .int .i64 c]] w (Made (.tuple #[.int .i64 k, .int .i64 e]) w) := by
  have h := cmp_any n d m c w hn hd hm hc
  rw [h1, h2] at h
  exact h

set_option maxHeartbeats 400000 in
theorem middle_any (n d m c : Int) (w : World) (hn : I64 n) (hd : I64 d) (hm : I64 m) (hc : I64 c) :
    Calls Try.prog 127 #[.agg #[.int .i64 n, .int .i64 d], .agg #[.int .i64 m, .int .i64 c]] w
      (Made (.tuple #[.agg #[.int .i64 (opNum (midB n d m c) (midX n d m c) (midY n d m c)), .int .i64 (opDen (midB n d m c) (midX n d m c) (midY n d m c))], .int .i64 (opErr (midB n d m c) (midX n d m c) (midY n d m c))]) w) := by
  cases hM : midB n d m c
  · have HV := Lib.hid (show ∀ x y : Int, opNum false x y = 0 ∧ opDen false x y = 0 ∧ opErr false x y = 2 by simp [opNum, opDen, opErr])
    cases hV : (vldB n d && vldB m c)
    · have H1 := Lib.hid (show (if (vldB n d && vldB m c) then sgn (n * c) (m * d) else 0) = 0 by simp [hV])
      have H2 := Lib.hid (show (if (vldB n d && vldB m c) then (0 : Int) else 2) = 2 by simp [hV])
      clear hV hM
      go_enter Try.func127, Try.ntmps127
      go_wp2_with fail
      refine (cmp_as _ hn hd hm hc H1.out H2.out).mono ?_
      rintro e w1 ⟨rfl, hb⟩
      obtain ⟨hx, hf⟩ := bcell hb
      go_wp2_with fail
      refine bodyPost_ret (v := .tuple #[.agg #[.int .i64 0, .int .i64 0], .int .i64 2]) (by simp [results, Try.results127, go_sem, hx]) rfl ⟨by rw [(HV.out _ _).1, (HV.out _ _).2.1, (HV.out _ _).2.2], ?_⟩
      exact ((past_three hb).setCell (by simp; omega) _).setCell (by simp; omega) _
    · have h3 : ¬ n * c < m * d := by unfold midB at hM; rw [hV] at hM; simpa using hM
      have H1 : 0 ≤ (if (vldB n d && vldB m c) then sgn (n * c) (m * d) else 0) := by rw [hV]; unfold sgn; simp; split <;> omega
      obtain ⟨k, hk⟩ : ∃ k : Int, (if (vldB n d && vldB m c) then sgn (n * c) (m * d) else 0) = k := ⟨_, rfl⟩
      rw [hk] at H1
      have HK := Lib.hid hk
      have H2 := Lib.hid (show (if (vldB n d && vldB m c) then (0 : Int) else 2) = 0 by simp [hV])
      clear hk hV hM h3
      go_enter Try.func127, Try.ntmps127
      go_wp2_with fail
      refine (cmp_as _ hn hd hm hc HK.out H2.out).mono ?_
      rintro e w1 ⟨rfl, hb⟩
      obtain ⟨hx, hf⟩ := bcell hb
      go_wp2_with fail
      refine bodyPost_ret (v := .tuple #[.agg #[.int .i64 0, .int .i64 0], .int .i64 2]) (by simp [results, Try.results127, go_sem, hx]) rfl ⟨by rw [(HV.out _ _).1, (HV.out _ _).2.1, (HV.out _ _).2.2], ?_⟩
      exact ((past_three hb).setCell (by simp; omega) _).setCell (by simp; omega) _
  · obtain ⟨hA, hK⟩ := mid_args hM
    have hR := smp_rng _ hA hK
    obtain ⟨⟨g1, g2⟩, g3, g4⟩ := hR
    have HV := Lib.hid (show ∀ x y : Int, opNum true x y = mkNum x y ∧ opDen true x y = mkDen x y ∧ opErr true x y = mkErr x y by simp [opNum, opDen, opErr])
    have hV : (vldB n d && vldB m c) = true := by unfold midB at hM; simp at hM; simp [hM]
    have h3 : n * c < m * d := by unfold midB at hM; simp at hM; exact hM.2
    have H1 := Lib.hid (show (if (vldB n d && vldB m c) then sgn (n * c) (m * d) else 0) = -1 by rw [hV]; simp [sgn, h3])
    have H2 := Lib.hid (show (if (vldB n d && vldB m c) then (0 : Int) else 2) = 0 by simp [hV])
    clear hV hM h3
    unfold midX midY
    go_enter Try.func127, Try.ntmps127
    go_wp2_with fail
    refine (cmp_as _ hn hd hm hc H1.out H2.out).mono ?_
    rintro e w1 ⟨rfl, hb⟩
    obtain ⟨hx, hf⟩ := bcell hb
    go_wp2_with fail
    refine (simplest_any _ _ _ _ _ _ hA hK).mono ?_
    rintro e w2 ⟨rfl, rfl⟩
    generalize (smp (d + c).toNat n d m c).1 = X at *
    generalize (smp (d + c).toNat n d m c).2 = Y at *
    go_wp2_with fail
    refine (make_any _ _ _ (by omega) (by omega) (by omega) (by omega)).mono ?_
    rintro e w3 ⟨rfl, hb3⟩
    replace hb3 := below_on hb hb3
    clear hb hx hf
    obtain ⟨hx, hf⟩ := bcell hb3
    go_wp2_with fail
    refine bodyPost_ret (v := .tuple #[.agg #[.int .i64 (mkNum X Y), .int .i64 (mkDen X Y)], .int .i64 (mkErr X Y)]) (by simp [results, Try.results127, go_sem, hx]) rfl ⟨by rw [(HV.out _ _).1, (HV.out _ _).2.1, (HV.out _ _).2.2], ?_⟩
    exact ((past_three hb3).setCell (by simp; omega) _).setCell (by simp; omega) _

theorem refCmp_as {n d m c k e : Int} (w : World) (hn : I64 n) (hd : I64 d) (hm : I64 m) (hc : I64 c) (h1 : (if (vldB n d && vldB m c) then sgn (n * c) (m * d) else 0) = k) (h2 : (if (vldB n d && vldB m c) then (0 : Int) else 2) = e) :
    Calls Try.prog 108 #[.agg #[.int .i64 n, .int .i64 d], .agg #[.int .i64 m, .int .i64 c]] w (Made (.tuple #[.int .i64 k, .int .i64 e]) w) := by
  have h := refCmp_any n d m c w hn hd hm hc
  rw [h1, h2] at h
  exact h
end Go.Proofs.Ytbnebinpemejlaa

namespace Go.Proofs.Ytbnebinpemejlaa
open Go.RowKit

def Dl.one : Dl := ⟨0, 1, 0, 0, false, false, true⟩

set_option maxHeartbeats 1600000 in
theorem fromzero_any (w : World) : Calls Try.prog 103 #[] w (Made (.agg Dl.one.cs) w) := by
  obtain ⟨w0, hw0⟩ : ∃ w0, w0 = w.alloc (.cells Dl.zero.cs 64) := ⟨_, rfl⟩
  have DR := Lib.hid (show Dbx w0 w.heap.size Dl.zero by rw [hw0]; exact Drow.made _ _)
  have E0 := Lib.hid (show Below w.heap.size w w0 by rw [hw0]; exact one_more _)
  simp only [Dl.cs, Dl.zero] at hw0
  have HW0 := Lib.hid hw0
  clear hw0
  simp only [Dl.cs, Dl.one]
  go_enter Try.func103, Try.ntmps103
  go_upto_region 1 with (fail)
  rw [← HW0.out]
  go_wp2_with fail
  refine (qzero_any _).mono ?_
  rintro e w1 ⟨rfl, hb1⟩
  have B1 := Lib.hid (below_on E0.out hb1)
  obtain ⟨r0, r1, r2, r3, r4, r5, r6⟩ := (DR.out.kept hb1).facts
  obtain ⟨f0, f1, f2, f3, f4, f5, f6⟩ := (DR.out.kept hb1).frees
  clear hb1
  go_wp2_with fail
  refine bodyPost_ret (v := .agg #[.int .i64 0, .int .i64 1, .int .i64 0, .int .i64 0, .bool false, .bool false, .bool true]) (by simp [results, Try.results103, go_sem, r0, r1, r2, r3, r4, r5, r6]) rfl ⟨rfl, ?_⟩
  exact below_seven B1.out (Nat.le_refl _) _ _ _ _ _ _ _

/-- Is nothing left? -/
def Dl.empty (x : Dl) : Bool := !x.nh && lsB x.hn x.hd x.ln x.ld (x.lo || x.ho)

set_option maxRecDepth 100000 in
set_option maxHeartbeats 1600000 in
theorem isempty_any (x : Dl) (w : World) (hx : x.Ok) : Calls Try.prog 106 #[.agg x.cs] w (Made (.bool x.empty) w) := by
  have BL := Lib.hid (fun q W => isbelow_any x.hn x.hd x.ln x.ld q W hx.2.2.1 hx.2.2.2 hx.1 hx.2.1)
  obtain ⟨w0, hw0⟩ : ∃ w0, w0 = w.alloc (.cells x.cs 64) := ⟨_, rfl⟩
  have DX := Lib.hid (show Dbx w0 w.heap.size x by rw [hw0]; exact Drow.made _ _)
  have E0 := Lib.hid (show Below w.heap.size w w0 by rw [hw0]; exact one_more _)
  simp only [Dl.cs] at hw0
  have HW0 := Lib.hid hw0
  clear hw0 hx
  obtain ⟨xln, xld, xhn, xhd, xlo, xho, xnh⟩ := x
  simp only at HW0 BL
  simp only [Dl.cs]
  have HE := Lib.hid (show Dl.empty ⟨xln, xld, xhn, xhd, xlo, xho, xnh⟩ = (!xnh && lsB xhn xhd xln xld (xlo || xho)) from rfl)
  generalize Dl.empty ⟨xln, xld, xhn, xhd, xlo, xho, xnh⟩ = r at *
  obtain ⟨q0, q1, q2, q3, q4, q5, q6⟩ := DX.out.facts
  simp only at q0 q1 q2 q3 q4 q5 q6
  cases xnh
  case true =>
    have HF := Lib.hid (show r = false from HE.out)
    go_enter Try.func106, Try.ntmps106
    go_upto_region 1 with (fail)
    rw [← HW0.out]
    go_wp2_with fail
    go_ret
    exact ⟨ret_bool HF.out.symm, E0.out⟩
  case false =>
    cases xlo
    case true =>
      have HF := Lib.hid (show r = lsB xhn xhd xln xld true from HE.out)
      have BL2 := Lib.hid (fun W => BL.out true W)
      generalize lsB xhn xhd xln xld true = s at *
      go_enter Try.func106, Try.ntmps106
      go_upto_region 1 with (fail)
      rw [← HW0.out]
      go_wp2_with fail
      refine (BL2.out _).mono ?_
      rintro e w1 ⟨rfl, hb1⟩
      have B1 := Lib.hid (below_on E0.out hb1)
      clear hb1 q0 q1 q2 q3 q4 q5 q6
      go_wp2_with fail
      go_ret
      exact ⟨ret_bool HF.out.symm, B1.out⟩
    case false =>
      have HF := Lib.hid (show r = lsB xhn xhd xln xld xho from HE.out)
      have BL2 := Lib.hid (fun W => BL.out xho W)
      generalize lsB xhn xhd xln xld xho = s at *
      go_enter Try.func106, Try.ntmps106
      go_upto_region 1 with (fail)
      rw [← HW0.out]
      go_wp2_with fail
      refine (BL2.out _).mono ?_
      rintro e w1 ⟨rfl, hb1⟩
      have B1 := Lib.hid (below_on E0.out hb1)
      clear hb1 q0 q1 q2 q3 q4 q5 q6
      go_wp2_with fail
      go_ret
      exact ⟨ret_bool HF.out.symm, B1.out⟩
end Go.Proofs.Ytbnebinpemejlaa

namespace Go.Proofs.Ytbnebinpemejlaa
open Go.RowKit

def mdN (n d m c : Int) : Int := opNum (midB n d m c) (midX n d m c) (midY n d m c)

def mdD (n d m c : Int) : Int := opDen (midB n d m c) (midX n d m c) (midY n d m c)

def mdE (n d m c : Int) : Int := opErr (midB n d m c) (midX n d m c) (midY n d m c)

/-- The value that Point takes of an interval. -/
def chN (x : Dl) : Int := if x.lo then (if x.nh then shN x.ln x.ld 1 else mdN x.ln x.ld x.hn x.hd) else x.ln

def chD (x : Dl) : Int := if x.lo then (if x.nh then shD x.ln x.ld 1 else mdD x.ln x.ld x.hn x.hd) else x.ld

def chE (x : Dl) : Int := if x.lo then (if x.nh then shE x.ln x.ld 1 else mdE x.ln x.ld x.hn x.hd) else 0

theorem ch_64 {x : Dl} (hx : x.Ok) : I64 (chN x) ∧ I64 (chD x) := by
  unfold chN chD
  split
  · split
    · exact ⟨opNum_64 _ _ _, opDen_64 _ _ _⟩
    · exact ⟨opNum_64 _ _ _, opDen_64 _ _ _⟩
  · exact ⟨hx.1, hx.2.1⟩

set_option maxRecDepth 100000 in
set_option maxHeartbeats 1600000 in
theorem choose_any (x : Dl) (w : World) (hx : x.Ok) : Calls Try.prog 102 #[.agg x.cs] w (Made (.tuple #[.agg #[.int .i64 (chN x), .int .i64 (chD x)], .int .i64 (chE x)]) w) := by
  have SH := Lib.hid (show ∀ W, Calls Try.prog 126 #[.agg #[.int .i64 x.ln, .int .i64 x.ld], .int .i64 1] W (Made (.tuple #[.agg #[.int .i64 (shN x.ln x.ld 1), .int .i64 (shD x.ln x.ld 1)], .int .i64 (shE x.ln x.ld 1)]) W) from fun W => shift_any x.ln x.ld 1 W hx.1 hx.2.1 (by omega) (by omega))
  have MD := Lib.hid (show ∀ W, Calls Try.prog 127 #[.agg #[.int .i64 x.ln, .int .i64 x.ld], .agg #[.int .i64 x.hn, .int .i64 x.hd]] W (Made (.tuple #[.agg #[.int .i64 (mdN x.ln x.ld x.hn x.hd), .int .i64 (mdD x.ln x.ld x.hn x.hd)], .int .i64 (mdE x.ln x.ld x.hn x.hd)]) W) from fun W => middle_any x.ln x.ld x.hn x.hd W hx.1 hx.2.1 hx.2.2.1 hx.2.2.2)
  obtain ⟨w0, hw0⟩ : ∃ w0, w0 = (w.alloc (.cells x.cs 64)).alloc (.cells #[.int .i64 0, .int .i64 0] 52) := ⟨_, rfl⟩
  have DX := Lib.hid (show Dbx w0 w.heap.size x by rw [hw0]; exact (Drow.made _ _).alloc _)
  have PR := Lib.hid (show Pair w0 (w.heap.size + 1) 0 0 by
    rw [hw0]
    have := Pair.made (w.alloc (.cells x.cs 64)) 0 0 52
    simpa using this)
  have E0 := Lib.hid (show Below w.heap.size w w0 by rw [hw0]; exact past_two (Below.refl _ _))
  simp only [Dl.cs] at hw0
  have HW0 := Lib.hid hw0
  have HN := Lib.hid (show chN x = (if x.lo then (if x.nh then shN x.ln x.ld 1 else mdN x.ln x.ld x.hn x.hd) else x.ln) ∧ chD x = (if x.lo then (if x.nh then shD x.ln x.ld 1 else mdD x.ln x.ld x.hn x.hd) else x.ld) ∧ chE x = (if x.lo then (if x.nh then shE x.ln x.ld 1 else mdE x.ln x.ld x.hn x.hd) else 0) from ⟨rfl, rfl, rfl⟩)
  clear hw0 hx
  generalize chN x = rn at *
  generalize chD x = rd at *
  generalize chE x = re at *
  obtain ⟨xln, xld, xhn, xhd, xlo, xho, xnh⟩ := x
  simp only at HW0 SH MD HN
  simp only [Dl.cs]
  generalize shN xln xld 1 = an at *
  generalize shD xln xld 1 = ad at *
  generalize shE xln xld 1 = ae at *
  generalize mdN xln xld xhn xhd = bn at *
  generalize mdD xln xld xhn xhd = bd at *
  generalize mdE xln xld xhn xhd = be at *
  obtain ⟨q0, q1, q2, q3, q4, q5, q6⟩ := DX.out.facts
  simp only at q0 q1 q2 q3 q4 q5 q6
  cases xlo
  case false =>
    have HF := Lib.hid (show rn = xln ∧ rd = xld ∧ re = 0 from HN.out)
    obtain ⟨p0, p1, p2, p3⟩ := PR.out.facts
    go_enter Try.func102, Try.ntmps102
    go_upto_region 1 with (fail)
    rw [← HW0.out]
    go_wp2_with fail
    rw [HF.out.1, HF.out.2.1, HF.out.2.2]
    refine bodyPost_ret (v := .tuple #[.agg #[.int .i64 xln, .int .i64 xld], .int .i64 0]) (by simp [results, Try.results102, go_sem, p0, p1]) rfl ⟨rfl, ?_⟩
    exact (E0.out.setCell (by show w.heap.size ≤ w.heap.size + 1; omega) _).setCell (by show w.heap.size ≤ w.heap.size + 1; omega) _
  case true =>
    cases xnh
    case true =>
      have HF := Lib.hid (show rn = an ∧ rd = ad ∧ re = ae from HN.out)
      go_enter Try.func102, Try.ntmps102
      go_upto_region 1 with (fail)
      rw [← HW0.out]
      go_wp2_with fail
      refine (SH.out _).mono ?_
      rintro e w1 ⟨rfl, hb1⟩
      have B1 := Lib.hid (below_on E0.out hb1)
      obtain ⟨p0, p1, p2, p3⟩ := (PR.out.kept hb1).facts
      clear hb1 q0 q1 q2 q3 q4 q5 q6
      go_wp2_with fail
      rw [HF.out.1, HF.out.2.1, HF.out.2.2]
      refine bodyPost_ret (v := .tuple #[.agg #[.int .i64 an, .int .i64 ad], .int .i64 ae]) (by simp [results, Try.results102, go_sem, p0, p1]) rfl ⟨rfl, ?_⟩
      exact (B1.out.setCell (by show w.heap.size ≤ w.heap.size + 1; omega) _).setCell (by show w.heap.size ≤ w.heap.size + 1; omega) _
    case false =>
      have HF := Lib.hid (show rn = bn ∧ rd = bd ∧ re = be from HN.out)
      go_enter Try.func102, Try.ntmps102
      go_upto_region 1 with (fail)
      rw [← HW0.out]
      go_wp2_with fail
      refine (MD.out _).mono ?_
      rintro e w1 ⟨rfl, hb1⟩
      have B1 := Lib.hid (below_on E0.out hb1)
      obtain ⟨p0, p1, p2, p3⟩ := (PR.out.kept hb1).facts
      clear hb1 q0 q1 q2 q3 q4 q5 q6
      go_wp2_with fail
      rw [HF.out.1, HF.out.2.1, HF.out.2.2]
      refine bodyPost_ret (v := .tuple #[.agg #[.int .i64 bn, .int .i64 bd], .int .i64 be]) (by simp [results, Try.results102, go_sem, p0, p1]) rfl ⟨rfl, ?_⟩
      exact (B1.out.setCell (by show w.heap.size ≤ w.heap.size + 1; omega) _).setCell (by show w.heap.size ≤ w.heap.size + 1; omega) _
end Go.Proofs.Ytbnebinpemejlaa

namespace Go.Proofs.Ytbnebinpemejlaa
open Go.RowKit

/-- Points: the values of the clocks from 1 on. -/
abbrev Pq := Int × Int

def gp (ps : List Pq) (k : Nat) : Pq := ps.getD k (0, 0)

def clk (ps : List Pq) (i : Nat) : Pq := if i = 0 then (0, 1) else gp ps (i - 1)

def Rd2 (w : World) (a : Addr) (ps : List Pq) : Prop := ∀ j, j < ps.length → w.cell? (a.add (j * 2)) = some (.int .i64 (gp ps j).1) ∧ w.cell? ⟨(a.add (j * 2)).block, (a.add (j * 2)).off + 1, none⟩ = some (.int .i64 (gp ps j).2)

theorem Rd2.on {w w' : World} {a : Addr} {l : List Pq} (h : Rd2 w a l) (hb : Below w.heap.size w w') : Rd2 w' a l := fun j hj => ⟨kept hb (h j hj).1, kept hb (h j hj).2⟩

def Arg2 (w : World) (po : Option Addr) (ps : List Pq) : Prop := ps ≠ [] → ∃ a, po = some a ∧ Rd2 w a ps

theorem Arg2.on {w w' : World} {ao : Option Addr} {l : List Pq} (h : Arg2 w ao l) (hb : Below w.heap.size w w') : Arg2 w' ao l := fun hl => by
  obtain ⟨a, h1, h2⟩ := h hl
  exact ⟨a, h1, h2.on hb⟩

/-- A value of a clock: a ratio from 0 on. -/
def vldC (c : Pq) : Bool := vldB c.1 c.2 && decide (0 ≤ c.1)

def sbE (ps : List Pq) (i j : Nat) : Int := mkErr ((clk ps i).1 * (clk ps j).2 - (clk ps j).1 * (clk ps i).2) ((clk ps i).2 * (clk ps j).2)

def sbN (ps : List Pq) (i j : Nat) : Int := mkNum ((clk ps i).1 * (clk ps j).2 - (clk ps j).1 * (clk ps i).2) ((clk ps i).2 * (clk ps j).2)

def sbD (ps : List Pq) (i j : Nat) : Int := mkDen ((clk ps i).1 * (clk ps j).2 - (clk ps j).1 * (clk ps i).2) ((clk ps i).2 * (clk ps j).2)

def rdR (n : Nat) (ps : List Pq) : Bool := (List.range (n + 1)).all fun i => (List.range (n + 1)).all fun j => decide (sbE ps i j = 0)

def rdE (N : Int) (l : List Int) (ps : List Pq) : Int := if chkE N l = 0 ∧ (ps.length : Int) = N ∧ ps.all vldC = true then (if rdR N.toNat ps then 0 else 7) else 2

theorem rd_all {ps : List Pq} (h : ps.all vldC = true) (k : Nat) (hk : k < ps.length) : vldC (gp ps k) = true := by
  rw [List.all_eq_true] at h
  have := h ps[k] (List.getElem_mem hk)
  simpa [gp, hk] using this

theorem rd_of {ps : List Pq} (h : ∀ k, k < ps.length → vldC (gp ps k) = true) : ps.all vldC = true := by
  rw [List.all_eq_true]
  intro x hx
  obtain ⟨k, hk, rfl⟩ := List.getElem_of_mem hx
  have := h k hk
  simpa [gp, hk] using this

theorem rdR_at {n : Nat} {ps : List Pq} (h : rdR n ps = true) {i j : Nat} (hi : i < n + 1) (hj : j < n + 1) : sbE ps i j = 0 := by
  simp [rdR] at h; exact h i hi j hj

theorem rdR_of {n : Nat} {ps : List Pq} (h : ∀ i, i < n + 1 → ∀ j, j < n + 1 → sbE ps i j = 0) : rdR n ps = true := by
  simp [rdR]; exact h

theorem clk_ok {ps : List Pq} (h : ∀ k, k < ps.length → vldC (gp ps k) = true) {i : Nat} (hi : i ≤ ps.length) : vldB (clk ps i).1 (clk ps i).2 = true := by
  unfold clk
  split
  · decide +kernel
  · have := h (i - 1) (by omega)
    unfold vldC at this
    simp at this
    exact this.1

/-- The difference of two clocks. -/
theorem sub_clk {ps : List Pq} (w : World) (h : ∀ k, k < ps.length → vldC (gp ps k) = true) {i j : Nat} (hi : i ≤ ps.length) (hj : j ≤ ps.length) :
    Calls Try.prog 49 #[.agg #[.int .i64 (clk ps i).1, .int .i64 (clk ps i).2], .agg #[.int .i64 (clk ps j).1, .int .i64 (clk ps j).2]] w (Made (.tuple #[.agg #[.int .i64 (sbN ps i j), .int .i64 (sbD ps i j)], .int .i64 (sbE ps i j)]) w) := by
  have v1 := clk_ok h hi
  have v2 := clk_ok h hj
  obtain ⟨a1, a2, a3, a4⟩ := vld_bd v1
  obtain ⟨b1, b2, b3, b4⟩ := vld_bd v2
  have := refSub_any (clk ps i).1 (clk ps i).2 (clk ps j).1 (clk ps j).2 w (by unfold I64; omega) (by unfold I64; omega) (by unfold I64; omega) (by unfold I64; omega)
  rw [v1, v2] at this
  exact this
end Go.Proofs.Ytbnebinpemejlaa

namespace Go.Proofs.Ytbnebinpemejlaa
open Go.RowKit

/-- Whether the number n / d meets the limit l. -/
def mtB (n d l : Int) : Bool := noB l || (if evB l then decide (n < l / 2 * d) else decide (n ≤ l / 2 * d))

def meB (n d l : Int) : Bool := vldB n d && lvB l && mtB n d l

def meE (n d l : Int) : Int := if vldB n d && lvB l then 0 else 2

theorem ret_be {a b : Bool} {c d : Int} (h : a = b) (g : c = d) : Ending.returned (.tuple #[.bool a, .int .i64 c]) = .returned (.tuple #[.bool b, .int .i64 d]) := by rw [h, g]

theorem of_small {c : Int} (h1 : -2147483647 ≤ c) (h2 : c ≤ 2147483647) : mkNum c 1 = c ∧ mkDen c 1 = 1 ∧ mkErr c 1 = 0 := by
  have ht : top c 1 = c.natAbs := by unfold top; simp
  have hb : bot c 1 = 1 := by unfold bot; simp
  have hf : fits c 1 = true := by unfold fits; rw [ht, hb]; simp; omega
  unfold mkNum mkDen mkErr
  have h0 : ¬ ((1 : Int) = 0) := by decide
  simp only [if_neg h0, hf, if_true, ht, hb]
  refine ⟨?_, by simp⟩
  by_cases hc : c < 0
  · simp [hc]; omega
  · simp [hc]; omega

theorem vld_small {c : Int} (h1 : -2147483647 ≤ c) (h2 : c ≤ 2147483647) : vldB c 1 = true := by unfold vldB; simp; omega

theorem of_as {c : Int} (w : World) (h1 : -2147483647 ≤ c) (h2 : c ≤ 2147483647) : Calls Try.prog 145 #[.int .i64 c] w (Made (.tuple #[.agg #[.int .i64 c, .int .i64 1], .int .i64 0]) w) := by
  have h := of_any c w ⟨by omega, by omega⟩
  rwa [(of_small h1 h2).1, (of_small h1 h2).2.1, (of_small h1 h2).2.2] at h

theorem cmp_to {n d c o : Int} (w : World) (v : vldB n d = true) (h1 : -2147483647 ≤ c) (h2 : c ≤ 2147483647) (ho : sgn (n * 1) (c * d) = o) :
    Calls Try.prog 146 #[.agg #[.int .i64 n, .int .i64 d], .agg #[.int .i64 c, .int .i64 1]] w (Made (.tuple #[.int .i64 o, .int .i64 0]) w) := by
  obtain ⟨x1, x2, x3, x4⟩ := vld_bd v
  have h := cmp_any n d c 1 w ⟨by omega, by omega⟩ ⟨by omega, by omega⟩ ⟨by omega, by omega⟩ ⟨by omega, by omega⟩
  have g : (vldB n d && vldB c 1) = true := by rw [v, vld_small h1 h2]; rfl
  rw [if_pos g, if_pos g, ho] at h
  exact h

theorem sgn_three (x y : Int) : (sgn x y = -1 ∧ x < y) ∨ (sgn x y = 0 ∧ x = y) ∨ (sgn x y = 1 ∧ y < x) := by
  unfold sgn
  by_cases h : x < y
  · simp [h]
  · by_cases g : y < x
    · simp [h, g]
    · right; left; rw [if_neg h, if_neg g]; omega

set_option maxHeartbeats 400000 in
theorem limMeets_some (n d l : Int) (w : World) (v : vldB n d = true) (hl : I64 l) (vl : lvB l = true) (nl : noB l = false) (l1 : -2147483648 ≤ l) (l2 : l ≤ 2147483649) :
    Calls Try.prog 124 #[.agg #[.int .i64 n, .int .i64 d], .int .i64 l] w (Made (.tuple #[.bool (meB n d l), .int .i64 (meE n d l)]) w) := by
  obtain ⟨x1, x2, x3, x4⟩ := vld_bd v
  have L0 : (l == 1099511627776) = false := by simpa [noB] using nl
  have hS := fun W => limSplit_some W hl vl nl
  have HM := Lib.hid (show meB n d l = (if evB l then decide (n < l / 2 * d) else decide (n ≤ l / 2 * d)) ∧ meE n d l = 0 by simp [meB, mtB, meE, v, vl, nl])
  obtain ⟨c, hc⟩ : ∃ c, c = l / 2 := ⟨_, rfl⟩
  have c1 : -2147483647 ≤ c := by omega
  have c2 : c ≤ 2147483647 := by omega
  obtain ⟨s, hs⟩ : ∃ s, s = evB l := ⟨_, rfl⟩
  rw [← hc, ← hs] at hS HM
  clear hc hs
  have V := Lib.hid v
  have VL := Lib.hid vl
  have HS := Lib.hid hS
  clear v vl nl hS
  rcases sgn_three (n * 1) (c * d) with ⟨ho, hr⟩ | ⟨ho, hr⟩ | ⟨ho, hr⟩ <;> cases s
  all_goals
    have HO := Lib.hid ho
    have HR := Lib.hid hr
    clear ho hr
    go_enter Try.func124, Try.ntmps124
    go_wp2_with fail
    refine (valid_as _ ⟨by omega, by omega⟩ ⟨by omega, by omega⟩ V.out).mono ?_
    rintro e w1 ⟨rfl, hb⟩
    have hB := past_one hb
    have pA := (Pair.made w n d 52).kept hb
    clear hb
    obtain ⟨fA0, fA1, fA2, fA3⟩ := pA.facts
    have gA := pA.lt
    go_wp2_with fail
    refine (limValid_as _ hl VL.out).mono ?_
    rintro e w' ⟨rfl, rfl⟩
    go_wp2_with fail
    refine (HS.out _).mono ?_
    rintro e w' ⟨rfl, rfl⟩
    go_wp2_with fail
    refine (of_as _ c1 c2).mono ?_
    rintro e w2 ⟨rfl, hb⟩
    replace pA := pA.kept hb
    replace hB := below_on hB hb
    clear hb fA0 fA1 fA2 fA3 gA
    obtain ⟨fA0, fA1, fA2, fA3⟩ := pA.facts
    have gA := pA.lt
    go_wp2_with fail
    refine (cmp_to _ V.out c1 c2 HO.out).mono ?_
    rintro e w3 ⟨rfl, hb⟩
    replace hB := on_box hB hb
    clear hb fA0 fA1 fA2 fA3 gA
    go_wp2_with fail
    go_ret2
    refine ⟨ret_be ?_ HM.out.2.symm, hB⟩
    have h := HR.out
    rw [Int.mul_one] at h
    rw [HM.out.1]
    simp
  all_goals omega

set_option maxHeartbeats 400000 in
theorem limMeets_bad1 (n d l : Int) (w : World) (hn : I64 n) (hd : I64 d) (v : vldB n d = false) :
    Calls Try.prog 124 #[.agg #[.int .i64 n, .int .i64 d], .int .i64 l] w (Made (.tuple #[.bool (meB n d l), .int .i64 (meE n d l)]) w) := by
  have HM := Lib.hid (show meB n d l = false ∧ meE n d l = 2 by simp [meB, meE, v])
  have V := Lib.hid v
  clear v
  go_enter Try.func124, Try.ntmps124
  go_wp2_with fail
  refine (valid_as _ hn hd V.out).mono ?_
  rintro e w1 ⟨rfl, hb⟩
  go_wp2_with fail
  go_ret2
  exact ⟨ret_be HM.out.1.symm HM.out.2.symm, past_one hb⟩

set_option maxHeartbeats 400000 in
theorem limMeets_bad2 (n d l : Int) (w : World) (hn : I64 n) (hd : I64 d) (hl : I64 l) (v : vldB n d = true) (vl : lvB l = false) :
    Calls Try.prog 124 #[.agg #[.int .i64 n, .int .i64 d], .int .i64 l] w (Made (.tuple #[.bool (meB n d l), .int .i64 (meE n d l)]) w) := by
  have HM := Lib.hid (show meB n d l = false ∧ meE n d l = 2 by simp [meB, meE, vl])
  have V := Lib.hid v
  have VL := Lib.hid vl
  clear v vl
  go_enter Try.func124, Try.ntmps124
  go_wp2_with fail
  refine (valid_as _ hn hd V.out).mono ?_
  rintro e w1 ⟨rfl, hb⟩
  go_wp2_with fail
  refine (limValid_as _ hl VL.out).mono ?_
  rintro e w' ⟨rfl, rfl⟩
  go_wp2_with fail
  go_ret2
  exact ⟨ret_be HM.out.1.symm HM.out.2.symm, past_one hb⟩

set_option maxHeartbeats 400000 in
theorem limMeets_none (n d l : Int) (w : World) (hn : I64 n) (hd : I64 d) (hl : I64 l) (v : vldB n d = true) (vl : lvB l = true) (nl : noB l = true) :
    Calls Try.prog 124 #[.agg #[.int .i64 n, .int .i64 d], .int .i64 l] w (Made (.tuple #[.bool (meB n d l), .int .i64 (meE n d l)]) w) := by
  have HM := Lib.hid (show meB n d l = true ∧ meE n d l = 0 by simp [meB, mtB, meE, v, vl, nl])
  have L0 : (l == 1099511627776) = true := by simpa [noB] using nl
  have V := Lib.hid v
  have VL := Lib.hid vl
  have NL := Lib.hid nl
  clear v vl nl
  go_enter Try.func124, Try.ntmps124
  go_wp2_with fail
  refine (valid_as _ hn hd V.out).mono ?_
  rintro e w1 ⟨rfl, hb⟩
  go_wp2_with fail
  refine (limValid_as _ hl VL.out).mono ?_
  rintro e w' ⟨rfl, rfl⟩
  go_wp2_with fail
  go_ret2
  exact ⟨ret_be HM.out.1.symm HM.out.2.symm, past_one hb⟩

theorem limMeets_any (n d l : Int) (w : World) (hn : I64 n) (hd : I64 d) (hl : I64 l) :
    Calls Try.prog 124 #[.agg #[.int .i64 n, .int .i64 d], .int .i64 l] w (Made (.tuple #[.bool (meB n d l), .int .i64 (meE n d l)]) w) := by
  cases v : vldB n d
  · exact limMeets_bad1 n d l w hn hd v
  · rcases lvB_cases l with ⟨vl, nl, l0, lr⟩ | ⟨l0, vl, nl⟩ | ⟨vl, nl, l0, l1, l2⟩
    · exact limMeets_bad2 n d l w hn hd hl v vl
    · exact limMeets_none n d l w hn hd hl v vl nl
    · exact limMeets_some n d l w v hl vl nl l1 l2
end Go.Proofs.Ytbnebinpemejlaa

namespace Go.Proofs.Ytbnebinpemejlaa

theorem gcd_pos (a b : Int) (h : b ≠ 0) : 0 < Nat.gcd a.natAbs b.natAbs := Nat.gcd_pos_of_pos_right _ (by omega)

theorem top_mul (a b : Int) : top a b * Nat.gcd a.natAbs b.natAbs = a.natAbs := Nat.div_mul_cancel (Nat.gcd_dvd_left _ _)

theorem bot_mul (a b : Int) : bot a b * Nat.gcd a.natAbs b.natAbs = b.natAbs := Nat.div_mul_cancel (Nat.gcd_dvd_right _ _)

theorem tb_cop (a b : Int) (h : b ≠ 0) : Nat.gcd (top a b) (bot a b) = 1 := by
  unfold top bot
  exact Nat.Coprime.gcd_eq_one (Nat.coprime_div_gcd_div_gcd (gcd_pos a b h))

theorem bot_pos (a b : Int) (h : b ≠ 0) : 1 ≤ bot a b := by
  have h1 := bot_mul a b
  rcases Nat.eq_zero_or_pos (bot a b) with e | e
  · rw [e] at h1; omega
  · exact e

/-- Parts without a common divisor are those of the number. -/
theorem cop_unique {t u t' u' : Nat} (h : Nat.gcd t u = 1) (h' : Nat.gcd t' u' = 1) (e : t * u' = t' * u) : t = t' ∧ u = u' := by
  have d1 : t ∣ t' := Nat.Coprime.dvd_of_dvd_mul_right (show Nat.Coprime t u from h) (e ▸ Nat.dvd_mul_right t u')
  have d2 : t' ∣ t := Nat.Coprime.dvd_of_dvd_mul_right (show Nat.Coprime t' u' from h') (e ▸ Nat.dvd_mul_right t' u)
  have d3 : u ∣ u' := Nat.Coprime.dvd_of_dvd_mul_left (show Nat.Coprime u t from by rw [Nat.coprime_comm]; exact h) (e ▸ Nat.dvd_mul_left u t')
  have d4 : u' ∣ u := Nat.Coprime.dvd_of_dvd_mul_left (show Nat.Coprime u' t' from by rw [Nat.coprime_comm]; exact h') (e ▸ Nat.dvd_mul_left u' t)
  exact ⟨Nat.dvd_antisymm d1 d2, Nat.dvd_antisymm d3 d4⟩

theorem tb_congr {a b a' b' : Int} (hb : b ≠ 0) (hb' : b' ≠ 0) (e : a * b' = a' * b) : top a b = top a' b' ∧ bot a b = bot a' b' := by
  apply cop_unique (tb_cop a b hb) (tb_cop a' b' hb')
  have e1 : a.natAbs * b'.natAbs = a'.natAbs * b.natAbs := by rw [← Int.natAbs_mul, ← Int.natAbs_mul, e]
  have t1 := top_mul a b
  have t2 := bot_mul a b
  have t3 := top_mul a' b'
  have t4 := bot_mul a' b'
  have p := gcd_pos a b hb
  have p' := gcd_pos a' b' hb'
  have e2 : (Nat.gcd a.natAbs b.natAbs * Nat.gcd a'.natAbs b'.natAbs) * (top a b * bot a' b') = (Nat.gcd a.natAbs b.natAbs * Nat.gcd a'.natAbs b'.natAbs) * (top a' b' * bot a b) := by
    calc _ = top a b * Nat.gcd a.natAbs b.natAbs * (bot a' b' * Nat.gcd a'.natAbs b'.natAbs) := by ac_rfl
      _ = a.natAbs * b'.natAbs := by rw [t1, t4]
      _ = a'.natAbs * b.natAbs := e1
      _ = top a' b' * Nat.gcd a'.natAbs b'.natAbs * (bot a b * Nat.gcd a.natAbs b.natAbs) := by rw [t2, t3]
      _ = _ := by ac_rfl
  exact Nat.eq_of_mul_eq_mul_left (Nat.mul_pos p p') e2

theorem neg_iff {a b : Int} (ha : a ≠ 0) (hb : b ≠ 0) : (decide (a < 0) != decide (b < 0)) = decide (a * b < 0) := by
  rcases Int.lt_or_lt_of_ne ha with x | x <;> rcases Int.lt_or_lt_of_ne hb with y | y
  · have u : 0 < a * b := Int.mul_pos_of_neg_of_neg x y
    rw [Bool.eq_iff_iff]; simp; omega
  · have u : a * b < 0 := Int.mul_neg_of_neg_of_pos x y
    rw [Bool.eq_iff_iff]; simp; omega
  · have u : a * b < 0 := Int.mul_neg_of_pos_of_neg x y
    rw [Bool.eq_iff_iff]; simp; omega
  · have u : 0 < a * b := Int.mul_pos x y
    rw [Bool.eq_iff_iff]; simp; omega

theorem neg_scale {x y p q : Int} (hp : 0 < p) (hq : 0 < q) (e : x * p = y * q) (h : x < 0) : y < 0 := by
  have u : x * p < 0 := Int.mul_neg_of_neg_of_pos h hp
  rcases Int.lt_or_le y 0 with k | k
  · exact k
  · have : 0 ≤ y * q := Int.mul_nonneg k (by omega)
    omega

theorem sq_pos {b : Int} (hb : b ≠ 0) : 0 < b * b := by
  rcases Int.lt_or_lt_of_ne hb with x | x
  · exact Int.mul_pos_of_neg_of_neg x x
  · exact Int.mul_pos x x

theorem neg_congr {a b a' b' : Int} (hb : b ≠ 0) (hb' : b' ≠ 0) (e : a * b' = a' * b) (h0 : a ≠ 0) : (decide (a < 0) != decide (b < 0)) = (decide (a' < 0) != decide (b' < 0)) := by
  have h1 : a' ≠ 0 := by
    intro h
    rw [h, Int.zero_mul] at e
    rcases Int.mul_eq_zero.1 e with h | h
    · exact h0 h
    · exact hb' h
  rw [neg_iff h0 hb, neg_iff h1 hb']
  have k : (a * b) * (b' * b') = (a' * b') * (b * b) := by
    calc (a * b) * (b' * b') = (a * b') * (b * b') := by ac_rfl
      _ = (a' * b) * (b * b') := by rw [e]
      _ = _ := by ac_rfl
  rw [decide_eq_decide]
  exact ⟨neg_scale (sq_pos hb') (sq_pos hb) k, neg_scale (sq_pos hb) (sq_pos hb') k.symm⟩

/-- Equal numbers are made the same. -/
theorem mk_congr {a b a' b' : Int} (hb : b ≠ 0) (hb' : b' ≠ 0) (e : a * b' = a' * b) : mkNum a b = mkNum a' b' ∧ mkDen a b = mkDen a' b' ∧ mkErr a b = mkErr a' b' := by
  obtain ⟨e1, e2⟩ := tb_congr hb hb' e
  have ef : fits a b = fits a' b' := by unfold fits; rw [e1, e2]
  refine ⟨?_, ?_, ?_⟩
  · unfold mkNum
    rw [if_neg hb, if_neg hb', ef, e1]
    by_cases h0 : a = 0
    · have t0 : top a' b' = 0 := by rw [← e1, h0]; simp [top]
      rw [t0]; simp
    · rw [neg_congr hb hb' e h0]
  · unfold mkDen
    rw [if_neg hb, if_neg hb', ef, e2]
  · unfold mkErr
    rw [if_neg hb, if_neg hb', ef]

/-- A valid ratio is made of itself. -/
theorem mk_self {n d : Int} (h : vldB n d = true) : mkNum n d = n ∧ mkDen n d = d ∧ mkErr n d = 0 := by
  obtain ⟨h1, h2, h3, h4⟩ := vld_bd h
  have hg : Nat.gcd n.natAbs d.natAbs = 1 := by unfold vldB at h; simp at h; exact h.2.2.2.2
  have t1 : top n d = n.natAbs := by unfold top; rw [hg]; simp
  have t2 : bot n d = d.natAbs := by unfold bot; rw [hg]; simp
  have hf : fits n d = true := by unfold fits; rw [t1, t2]; simp; omega
  have hd : ¬ d = 0 := by omega
  refine ⟨?_, ?_, ?_⟩
  · unfold mkNum; rw [if_neg hd, hf, t1]
    have : decide (d < 0) = false := by simp; omega
    rw [this]
    by_cases hn : n < 0
    · simp [hn]; omega
    · simp [hn]; omega
  · unfold mkDen; rw [if_neg hd, hf, t2]; simp; omega
  · unfold mkErr; rw [if_neg hd, hf]; rfl

/-- The ratio of a number: what stands for it is what is made. -/
theorem mk_is {a b P Q : Int} (hv : vldB P Q = true) (hb : b ≠ 0) (e : P * b = a * Q) : mkNum a b = P ∧ mkDen a b = Q ∧ mkErr a b = 0 := by
  have hQ := (vld_bd hv).1
  obtain ⟨s1, s2, s3⟩ := mk_self hv
  obtain ⟨c1, c2, c3⟩ := mk_congr (a := a) (b := b) (a' := P) (b' := Q) hb (by omega) e.symm
  rw [s1] at c1; rw [s2] at c2; rw [s3] at c3
  exact ⟨c1, c2, c3⟩

/-- What is made without an error is a ratio that stands for the number. -/
theorem mk_ok {a b : Int} (h : mkErr a b = 0) : b ≠ 0 ∧ vldB (mkNum a b) (mkDen a b) = true ∧ mkNum a b * b = a * mkDen a b := by
  have hb : b ≠ 0 := by intro e; unfold mkErr at h; rw [if_pos e] at h; omega
  have hf : fits a b = true := by
    unfold mkErr at h; rw [if_neg hb] at h
    cases hc : fits a b
    · rw [hc] at h; simp at h
    · rfl
  have hn : mkNum a b = (if (decide (a < 0) != decide (b < 0)) then -(top a b : Int) else top a b) := by unfold mkNum; rw [if_neg hb, hf]; rfl
  have hd : mkDen a b = bot a b := by unfold mkDen; rw [if_neg hb, hf]; rfl
  have c := tb_cop a b hb
  have p := bot_pos a b hb
  have f2 : top a b ≤ 2147483647 ∧ bot a b ≤ 2147483647 := by unfold fits at hf; simpa using hf
  have ab : (mkNum a b).natAbs = top a b := by rw [hn]; split <;> simp
  refine ⟨hb, ?_, ?_⟩
  · unfold vldB
    rw [ab, hd]
    simp
    refine ⟨by omega, by omega, ?_, ?_, c⟩ <;> omega
  · have t := top_mul a b
    have u := bot_mul a b
    generalize hg : Nat.gcd a.natAbs b.natAbs = g at *
    have t' : ((top a b : Nat) : Int) * (g : Int) = (a.natAbs : Int) := by exact_mod_cast t
    have u' : ((bot a b : Nat) : Int) * (g : Int) = (b.natAbs : Int) := by exact_mod_cast u
    rw [hn, hd]
    generalize ((top a b : Nat) : Int) = T at *
    generalize ((bot a b : Nat) : Int) = U at *
    by_cases ha : a < 0 <;> by_cases hb2 : b < 0
    · have ea : a = -(T * g) := by omega
      have eb : b = -(U * g) := by omega
      simp only [ha, hb2, decide_true, bne_self_eq_false, Bool.false_eq_true, if_false]
      rw [eb, ea]; grind
    · have ea : a = -(T * g) := by omega
      have eb : b = U * g := by omega
      simp only [ha, hb2, decide_true, decide_false]
      simp
      rw [eb, ea]; grind
    · have ea : a = T * g := by omega
      have eb : b = -(U * g) := by omega
      simp only [ha, hb2, decide_true, decide_false]
      simp
      rw [eb, ea]; grind
    · have ea : a = T * g := by omega
      have eb : b = U * g := by omega
      simp only [ha, hb2, decide_false, bne_self_eq_false, Bool.false_eq_true, if_false]
      rw [eb, ea]; grind

theorem mk_zero {a b : Int} (hb : b ≠ 0) (h : mkErr a b ≠ 0) : mkNum a b = 0 ∧ mkDen a b = 0 ∧ mkErr a b = 7 := by
  unfold mkErr at h; rw [if_neg hb] at h
  have hf : fits a b = false := by
    cases hc : fits a b
    · rfl
    · rw [hc] at h; simp at h
  unfold mkNum mkDen mkErr
  rw [if_neg hb, if_neg hb, if_neg hb, hf]
  simp
end Go.Proofs.Ytbnebinpemejlaa

namespace Go.Proofs.Ytbnebinpemejlaa
open Go.RowKit

def Fits (ps : List Pq) : Prop := ∀ k, k < ps.length → I64 (gp ps k).1 ∧ I64 (gp ps k).2

/-- The elements of a zone that passes Check are limits. -/
theorem chk_i64 {n : Nat} {l : List Int} (h : chkE (n : Int) l = 0) {i j : Nat} (hi : i ≤ n) (hj : j ≤ n) : I64 (Zo.At n l i j) := by
  unfold chkE at h
  split at h
  · rename_i c
    unfold chkB at c
    simp only [Bool.and_eq_true] at c
    have := chk1_iff.1 c.1.2 i (by simp; omega) j (by simp; omega)
    simp only [Int.toNat_natCast] at this
    unfold okI at this
    simp only [Bool.and_eq_true] at this
    have lv := this.1.1
    unfold lvB at lv
    simp at lv
    unfold I64; omega
  · omega

def hsM (n : Nat) (l : List Int) (ps : List Pq) (i j : Nat) : Bool := meB (sbN ps i j) (sbD ps i j) (Zo.At n l i j)

def hsB (n : Nat) (l : List Int) (ps : List Pq) : Bool := (List.range (n + 1)).all fun i => (List.range (n + 1)).all fun j => hsM n l ps i j

def hsR (N : Int) (l : List Int) (ps : List Pq) : Bool := decide (rdE N l ps = 0) && hsB N.toNat l ps

theorem hsB_iff {n : Nat} {l : List Int} {ps : List Pq} : hsB n l ps = true ↔ ∀ i, i < n + 1 → ∀ j, j < n + 1 → hsM n l ps i j = true := by simp [hsB]

theorem hsB_no {n : Nat} {l : List Int} {ps : List Pq} {i j : Nat} (hi : i < n + 1) (hj : j < n + 1) (h : hsM n l ps i j = false) : hsB n l ps = false := by
  cases e : hsB n l ps
  · rfl
  · have := hsB_iff.1 e i hi j hj
    rw [h] at this; simp at this

/-- What it means to be ready. -/
theorem rd_ok {N : Int} {l : List Int} {ps : List Pq} (h : rdE N l ps = 0) : chkE N l = 0 ∧ (ps.length : Int) = N ∧ (∀ k, k < ps.length → vldC (gp ps k) = true) ∧ rdR N.toNat ps = true := by
  unfold rdE at h
  split at h
  · rename_i c
    split at h
    · rename_i d; exact ⟨c.1, c.2.1, fun k hk => rd_all c.2.2 k hk, d⟩
    · omega
  · omega
end Go.Proofs.Ytbnebinpemejlaa
