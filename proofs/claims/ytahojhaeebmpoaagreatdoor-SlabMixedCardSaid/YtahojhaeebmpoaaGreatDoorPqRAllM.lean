/- All that SlabMixed rests on. -/
import Derived.Test.YtahojhaeebmpoaaGreatDoorPq46
