/- The text of a ratio. -/
import Derived.Test.YtbcafamgmdngpaaDoorRa1
import Derived.Test.YtbcafamgmdngpaaDoorFit
namespace Go.Proofs.YtbcafamgmdngpaaDoor

def txt (n d : Int) : List UInt8 := if vldB n d then (if d = 1 then Lib.itoa n else Lib.itoa n ++ (47 :: Lib.itoa d)) else []
end Go.Proofs.YtbcafamgmdngpaaDoor
