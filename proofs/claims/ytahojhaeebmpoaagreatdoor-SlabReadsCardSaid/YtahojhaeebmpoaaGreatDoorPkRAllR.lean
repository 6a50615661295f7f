/- All texts under the laws of stage 6. -/
import Derived.Test.YtahojhaeebmpoaaGreatDoorPk50
namespace Go.Proofs.YtahojhaeebmpoaaGreatDoor
end Go.Proofs.YtahojhaeebmpoaaGreatDoor
