/- All that SlabLasts' law rests on. -/
import Derived.Test.YtahojhaeebmpoaaGreatDoorPl46
