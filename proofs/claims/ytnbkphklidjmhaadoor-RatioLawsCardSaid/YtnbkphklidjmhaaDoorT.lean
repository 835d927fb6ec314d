/- The contract of ratio.Text. -/
import Derived.Test.YtnbkphklidjmhaaDoorG
import Derived.Test.YtnbkphklidjmhaaDoorShelf
import Derived.Lib.BufferWrite
import Derived.Lib.ItoaLen
import Derived.Laws.IdiomStrings
import Derived.Laws.CopyOwn
namespace Go.Proofs.YtnbkphklidjmhaaDoor
open Go.RowKit

/-- What the library's functions ask of a world: the table of powers of ten, and a variable that holds an integer. -/
structure Fit (w : World) : Prop where
  tab : Lib.TabIs Tryd.prog w "internal/strconv.uint64pow10" .u64 Lib.pow10Tab
  cut : ∃ m : Int, w.cell? ⟨1, 0, none⟩ = some (.int .i64 m)
  room : 2 ≤ w.heap.size

theorem Fit.on {w w' : World} (h : Fit w) (hb : Below w.heap.size w w') : Fit w' := by
  refine ⟨Lib.tabBelow_of_tabIs h.tab w' hb, ?_, Nat.le_trans h.room hb.size⟩
  obtain ⟨m, hm⟩ := h.cut
  have := h.room
  exact ⟨m, by rw [hb.cell (p := ⟨1, 0, none⟩) (by show 1 < w.heap.size; omega)]; exact hm⟩

theorem setRow_own (w : World) (g : Nat) (cur : Array Value) (e : TypeId) (hg : w.heap[g]? = some (.cells cur e (0, 0))) (s : ByteArray) (m : Nat) (hm : cur.size = m) (hs : s.size ≤ m) (hx : m ≤ maxLen) (B : Nat) (hB : B ≤ g) :
    (w.setRow g (cur.toList.take 0 ++ Lib.byteCells s.data.toList ++ cur.toList.drop (0 + s.size)).toArray).ownsRow B e 1 (.slice (some ⟨g, 0, none⟩) s.size m) s.size (Lib.byteCells s.data.toList) := by
  have hlen : (Lib.byteCells s.data.toList).length = s.size := by rw [Lib.byteCells_length]; simp
  refine ⟨by rw [hlen]; omega, .inr ⟨g, m, _, rfl, hB, setRow_heap w g _ _ e _ hg, hs, hx, ?_, ?_⟩⟩
  · simp [hlen]; omega
  · simp [hlen]

def okErr (b : Bool) : Int := if b then 0 else 2
def txt (n d : Int) : List UInt8 := if vldB n d then (if d = 1 then Lib.itoa n else Lib.itoa n ++ (47 :: Lib.itoa d)) else []

theorem ret_text {a b : List UInt8} {c d : Int} (h : a = b) (g : c = d) : Ending.returned (.tuple #[.string ⟨a.toArray⟩, .int .i64 c]) = .returned (.tuple #[.string ⟨b.toArray⟩, .int .i64 d]) := by rw [h, g]

set_option maxHeartbeats 400000 in
theorem text_no (n d : Int) (w : World) (hn : I64 n) (hd : I64 d) (hv : vldB n d = false) :
    Calls Tryd.prog 34 #[.agg #[.int .i64 n, .int .i64 d]] w (Made (.tuple #[.string ⟨(txt n d).toArray⟩, .int .i64 (okErr (vldB n d))]) w) := by
  have V := Lib.hid hv
  have H := Lib.hid (show txt n d = [] ∧ okErr (vldB n d) = 2 by simp [txt, okErr, hv])
  clear hv
  go_enter Tryd.func34, Tryd.ntmps34
  go_wp2_with fail
  refine (valid_as _ hn hd V.out).mono ?_
  rintro e w1 ⟨rfl, hb⟩
  go_wp2_with fail
  go_ret2
  exact ⟨by rw [H.out.1, H.out.2]; rfl, past_one hb⟩

set_option maxHeartbeats 400000 in
theorem text_int (n : Int) (w : World) (hF : Fit w) (hn : I64 n) (hv : vldB n 1 = true) :
    Calls Tryd.prog 34 #[.agg #[.int .i64 n, .int .i64 1]] w (Made (.tuple #[.string ⟨(txt n 1).toArray⟩, .int .i64 (okErr (vldB n 1))]) w) := by
  have V := Lib.hid hv
  have H := Lib.hid (show txt n 1 = Lib.itoa n ∧ okErr (vldB n 1) = 0 by simp [txt, okErr, hv])
  clear hv
  go_enter Tryd.func34, Tryd.ntmps34
  go_wp2_with fail
  refine (valid_as _ hn (by unfold I64; omega) V.out).mono ?_
  rintro e w1 ⟨rfl, hb⟩
  obtain ⟨hx, hf⟩ := bcell hb
  have hF1 := hF.on (past_one hb)
  go_wp2_with fail
  refine (Tryd.strconv_FormatInt_10 n hn.1 hn.2 _ hF1.tab).mono ?_
  rintro e w2 ⟨rfl, k, os, hw⟩
  have hb2 := below_on hb (show Below w1.heap.size w1 w2 by rw [hw]; exact Lib.below_grow _ _ (Nat.le_refl _) k os)
  clear hb hx hf hw
  obtain ⟨hx, hf⟩ := bcell hb2
  go_wp2_with fail
  go_ret2
  exact ⟨by rw [H.out.1, H.out.2]; rfl, past_one hb2⟩

theorem Tryd.info5 : (Tryd.prog.info? 5).map (fun i => (i.zero, i.size, i.bytes)) = some (some (.int .u8 0), 1, 1) := by kernel_rfl
theorem Tryd.size5 : (Tryd.prog.info? 5).map (·.size) = some 1 := by kernel_rfl

/-- 'make([]byte, l, l + 11)': a new row with room for l + 11. -/
theorem make_bytes (w : World) (l : Nat) (hl : l ≤ 21) : ∃ cur : Array Value, cur.size = l + 11 ∧
    (Instr.makeSlice 52 (.int .i64 (l : Int)) (.int .i64 ((l : Int) + 11))).run Tryd.prog w = .ok (.slice (some ⟨w.heap.size, 0, none⟩) l (l + 11)) (w.alloc (.cells cur 5)) := by
  obtain ⟨i0, hi, hz0, hz1, hz2⟩ := info_parts Tryd.info5
  have hr := run_make (P := Tryd.prog) w 52 5 i0 _ Tryd.underlying52 hi hz0 .i64 .i64 (l : Int) ((l : Int) + 11) (by omega) (by omega) (by rw [hz2]; omega) (by omega)
  refine ⟨_, ?_, hr⟩
  rw [size_madeCells, hz1]; omega

/-- 'copy(text, num)', text just made: the text owns num's bytes. -/
theorem copy_bytes (w : World) (s : List UInt8) (cur : Array Value) (hc : cur.size = s.length + 11) (hl : s.length ≤ 21) : ∃ w3 : World,
    (Builtin.copy_ #[52, 9] 3 #[.slice (some ⟨w.heap.size, 0, none⟩) s.length (s.length + 11), .string ⟨s.toArray⟩]).run Tryd.prog (w.alloc (.cells cur 5)) = .ok (.int .i64 s.length) w3 ∧
    w3.ownsRow w.heap.size 5 1 (.slice (some ⟨w.heap.size, 0, none⟩) s.length (s.length + 11)) s.length (Lib.byteCells s) ∧ Below w.heap.size w w3 := by
  have hg := heap_alloc_new w (.cells cur 5)
  have hz : (⟨s.toArray⟩ : ByteArray).size = s.length := by simp [ByteArray.size]
  have hr := Lib.run_copy_row_string (P := Tryd.prog) (w.alloc (.cells cur 5)) 52 9 3 5 w.heap.size 0 s.length (s.length + 11) ⟨s.toArray⟩ cur 5 Tryd.underlying52 Tryd.size5 hg (by omega) (by omega)
  have ho := setRow_own (w.alloc (.cells cur 5)) w.heap.size cur 5 hg ⟨s.toArray⟩ (s.length + 11) hc (by omega) (by unfold maxLen; omega) w.heap.size (Nat.le_refl _)
  rw [hz] at ho hr
  exact ⟨_, hr, ho, below_setRow ((Below.refl _ _).alloc (Nat.le_refl _) _) (Nat.le_refl _) _⟩

/-- 'string(text)': the bytes that the text owns. -/
theorem own_text {w : World} {B : Nat} {v : Value} {l : List UInt8} (h0 : l ≠ []) (h : w.ownsRow B 5 1 v l.length (Lib.byteCells l)) :
    ∃ g cap, v = .slice (some ⟨g, 0, none⟩) l.length cap ∧ (convert 52 9 (.slice (some ⟨g, 0, none⟩) l.length cap)).run Tryd.prog w = .ok (.string ⟨l.toArray⟩) w := by
  have hc := fun {g : Nat} (hg : v.ownBlock = some g) => h.cells hg
  obtain ⟨_, ⟨_, hn⟩ | ⟨g, cap, cur, hv, _⟩⟩ := h
  · exact absurd (List.eq_nil_of_length_eq_zero hn) h0
  · refine ⟨g, cap, hv, run_convert_bytes_back w 52 9 5 ⟨g, 0, none⟩ cap l Tryd.underlying52 Tryd.underlying5 Tryd.underlying9 ?_⟩
    intro j hj
    exact hc (g := g) (by rw [hv]; rfl) j _ (by simp [Lib.byteCells, hj])

theorem own_frac {w : World} {B : Nat} {v : Value} {sn sd : List UInt8} (h : w.ownsRow B 5 1 v (sn.length + 1 + sd.length) (Lib.byteCells sn ++ [Value.int .u8 47] ++ Lib.byteCells sd)) :
    ∃ l, l = sn ++ 47 :: sd ∧ ∃ g cap, v = .slice (some ⟨g, 0, none⟩) l.length cap ∧ (convert 52 9 (.slice (some ⟨g, 0, none⟩) l.length cap)).run Tryd.prog w = .ok (.string ⟨l.toArray⟩) w := by
  refine ⟨sn ++ 47 :: sd, rfl, own_text (w := w) (B := B) (v := v) (l := sn ++ 47 :: sd) (by simp) ?_⟩
  have e1 : (sn ++ 47 :: sd).length = sn.length + 1 + sd.length := by simp; omega
  have e2 : Lib.byteCells (sn ++ 47 :: sd) = Lib.byteCells sn ++ [Value.int .u8 47] ++ Lib.byteCells sd := by simp [Lib.byteCells]
  rw [e1, e2]; exact h

set_option maxHeartbeats 400000 in
theorem text_frac (n d : Int) (w : World) (hF : Fit w) (hn : I64 n) (hd : I64 d) (h1 : d ≠ 1) (hv : vldB n d = true) :
    Calls Tryd.prog 34 #[.agg #[.int .i64 n, .int .i64 d]] w (Made (.tuple #[.string ⟨(txt n d).toArray⟩, .int .i64 (okErr (vldB n d))]) w) := by
  have V := Lib.hid hv
  have H := Lib.hid (show txt n d = Lib.itoa n ++ (47 :: Lib.itoa d) ∧ okErr (vldB n d) = 0 by simp [txt, okErr, hv, h1])
  clear hv
  have D1 : (d == 1) = false := by simpa using h1
  have hl := Lib.itoa_length_le n hn.1 hn.2
  obtain ⟨i0, hi, hz0, hz1, hz2⟩ := info_parts Tryd.info5
  have Hi := Lib.hid hi
  have Hz1 := Lib.hid hz1
  clear hi hz0 hz1 hz2
  go_enter Tryd.func34, Tryd.ntmps34
  go_wp2_with fail
  refine (valid_as _ hn hd V.out).mono ?_
  rintro e w1 ⟨rfl, hb⟩
  obtain ⟨hx, hf⟩ := bcell hb
  have hF1 := hF.on (past_one hb)
  go_wp2_with fail
  refine (Tryd.strconv_FormatInt_10 n hn.1 hn.2 _ hF1.tab).mono ?_
  rintro e w2 ⟨rfl, k, os, hw⟩
  have hb2 := below_on hb (show Below w1.heap.size w1 w2 by rw [hw]; exact Lib.below_grow _ _ (Nat.le_refl _) k os)
  clear hb hx hf hw hF1
  obtain ⟨hx, hf⟩ := bcell hb2
  generalize Lib.itoa n = sn at *
  obtain ⟨cur, hcur, hmk⟩ := make_bytes w2 sn.length hl
  obtain ⟨w3, hcp, hown, hb3⟩ := copy_bytes w2 sn cur hcur hl
  have Hcur := Lib.hid hcur
  clear hcur
  have hs3 := hb3.size
  have hq : ∀ w4 : World, (w3.alloc (.cells #[.int .u8 47] 5)).grownBy w4 (some w2.heap.size) → Below w2.heap.size w2 w4 := fun w4 hgrow =>
    (hb3.alloc hb3.size _).grown hgrow (by have := hb3.size; simp; omega) (by intro k hk; simp at hk; omega)
  have HQ := Lib.hid hq
  have Hb2 := Lib.hid hb2
  have HT := Lib.hid (hF.on (past_one hb2)).tab
  clear hq hb2 hb3
  go_wp2_with (at_builtin; (refine wpList_append_fits _ rfl _ _ 52 rfl w2.heap.size 5 i0 1 Tryd.underlying52 Hi.out Hz1.out w2.heap.size sn.length (sn.length + 11) (Lib.byteCells sn) rfl (hown.alloc _) ⟨w3.heap.size, 0, none⟩ 1 1 [.int .u8 47] rfl rfl (cell_one_new _ _ _) (by simp [Value.oneCell']) (by omega) ?_); intro w4 hown4 hgrow; clear hx hf; have Ho4 := Lib.hid hown4; have hb4 := HQ.out _ hgrow; have hs4 := hb4.size; have hb5 := below_on Hb2.out hb4; have Hb4 := Lib.hid hb4; obtain ⟨hx, hf⟩ := bcell hb5; clear hown4 hgrow hmk hcp hown hb4)
  refine (Tryd.strconv_AppendInt_10 w2.heap.size (sn.length + 1) d hd.1 hd.2 _ _ w4 Ho4.out hs4 (by omega) ((Lib.tabBelow_of_tabIs HT.out).on Hb4.out)).mono ?_
  rintro e w6 ⟨v', rfl, hown6, hb6, _⟩
  have hb7 := below_on Hb2.out (Hb4.out.trans hb6)
  obtain ⟨l, hl2, g, cap, rfl, hcv⟩ := own_frac hown6
  have HL := Lib.hid hl2
  clear hx hf hb5 hb6 hown6 hl2
  go_wp2_with fail
  go_ret2
  exact ⟨by rw [H.out.1, H.out.2, ← HL.out]; rfl, past_one hb7⟩

theorem text_any (n d : Int) (w : World) (hF : Fit w) (hn : I64 n) (hd : I64 d) :
    Calls Tryd.prog 34 #[.agg #[.int .i64 n, .int .i64 d]] w (Made (.tuple #[.string ⟨(txt n d).toArray⟩, .int .i64 (okErr (vldB n d))]) w) := by
  cases hv : vldB n d
  · rw [← hv]; exact text_no n d w hn hd hv
  · by_cases h1 : d = 1
    · subst h1; rw [← hv]; exact text_int n w hF hn hv
    · rw [← hv]; exact text_frac n d w hF hn hd h1 hv
end Go.Proofs.YtnbkphklidjmhaaDoor
