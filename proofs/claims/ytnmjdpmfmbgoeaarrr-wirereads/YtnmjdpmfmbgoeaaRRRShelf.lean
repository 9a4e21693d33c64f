import Derived.Test.YtnmjdpmfmbgoeaaRRRRows
namespace Go.Proofs.YtnmjdpmfmbgoeaaRRR
end Go.Proofs.YtnmjdpmfmbgoeaaRRR
