/- What the library's functions ask of a world; texts. -/
import Derived.Test.YtbcafamgmdngpaaDoorBase
import Derived.Test.YtbcafamgmdngpaaDoorShelf
import Derived.Lib.BufferWrite
import Derived.Lib.ItoaLen
import Derived.Lib.AppendIntMem
import Derived.Laws.IdiomStrings
import Derived.Laws.CopyOwn
namespace Go.Proofs.YtbcafamgmdngpaaDoor
open Go.RowKit

/-- What the library's functions ask of a world: the table of powers of ten. -/
structure Fit (w : World) : Prop where
  tab : Lib.TabIs Tryd.prog w "internal/strconv.uint64pow10" .u64 Lib.pow10Tab

theorem Fit.on {w w' : World} (h : Fit w) (hb : Below w.heap.size w w') : Fit w' := ⟨Lib.tabBelow_of_tabIs h.tab w' hb⟩

theorem setRow_own (w : World) (g : Nat) (cur : Array Value) (e : TypeId) (hg : w.heap[g]? = some (.cells cur e (0, 0))) (s : ByteArray) (m : Nat) (hm : cur.size = m) (hs : s.size ≤ m) (hx : m ≤ maxLen) (B : Nat) (hB : B ≤ g) :
    (w.setRow g (cur.toList.take 0 ++ Lib.byteCells s.data.toList ++ cur.toList.drop (0 + s.size)).toArray).ownsRow B e 1 (.slice (some ⟨g, 0, none⟩) s.size m) s.size (Lib.byteCells s.data.toList) := by
  have hlen : (Lib.byteCells s.data.toList).length = s.size := by rw [Lib.byteCells_length]; simp
  refine ⟨by rw [hlen]; omega, .inr ⟨g, m, _, rfl, hB, setRow_heap w g _ _ e _ hg, hs, hx, ?_, ?_⟩⟩
  · simp [hlen]; omega
  · simp [hlen]

def okErr (b : Bool) : Int := if b then 0 else 2

theorem ret_text {a b : List UInt8} {c d : Int} (h : a = b) (g : c = d) : Ending.returned (.tuple #[.string ⟨a.toArray⟩, .int .i64 c]) = .returned (.tuple #[.string ⟨b.toArray⟩, .int .i64 d]) := by rw [h, g]

theorem cat1 (c : UInt8) (l : List UInt8) : (⟨#[c]⟩ : ByteArray) ++ ⟨l.toArray⟩ = ⟨(c :: l).toArray⟩ := by
  apply ByteArray.ext
  simp

theorem itoa_pos {n : Int} (h : 0 ≤ n) : Lib.itoa n = Lib.decDigits n.natAbs := by unfold Lib.itoa; rw [if_neg (by omega)]; congr 1; omega

theorem itoa_min {n : Int} (h : n < 0) : Lib.itoa n = 45 :: Lib.decDigits n.natAbs := by unfold Lib.itoa; rw [if_pos h]

theorem ret_str {a b : ByteArray} (h : a = b) : Ending.returned (.string a) = .returned (.string b) := by rw [h]

theorem ret_text2 {a b : ByteArray} {c d : Int} (h : a = b) (g : c = d) : Ending.returned (.tuple #[.string a, .int .i64 c]) = .returned (.tuple #[.string b, .int .i64 d]) := by rw [h, g]

theorem cat_run (a b : ByteArray) (h : a.size + b.size ≤ 1000) (w : World) : (Op.stringOp .add a b).run Tryd.prog w = .ok (.string (a ++ b)) w := run_string_add_sum w a b (by omega)

theorem sizeL (l : List UInt8) : (⟨l.toArray⟩ : ByteArray).size = l.length := by simp [ByteArray.size]
end Go.Proofs.YtbcafamgmdngpaaDoor
