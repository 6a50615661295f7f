/- All that SlabPlays' law rests on. -/
import Derived.Test.YtahojhaeebmpoaaGreatDoorPm46
