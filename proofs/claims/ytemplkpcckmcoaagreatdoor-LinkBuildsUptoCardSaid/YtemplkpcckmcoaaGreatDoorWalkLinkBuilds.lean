/- The walk of the law LinkBuilds. Condition: the argument reads as a list of classes. -/
import Derived.Test.YtemplkpcckmcoaaGreatDoorMkLnkWb
import Derived.Test.YtemplkpcckmcoaaGreatDoorMkLnkAw
namespace Go.Proofs.YtemplkpcckmcoaaGreatDoor
set_option maxHeartbeats 32000000
open Lib (hid)
open Go.RowKit
set_option linter.unusedVariables false
set_option linter.unusedSimpArgs false
set_option maxRecDepth 100000 in
theorem walkBuilds (v : Value) (cs : List ClassV) (w : World) (hc : Classes w v cs) (ht : ∀ c ∈ cs, Texts c.pool) (hT : Tabs w) (hE : ErrV w) :
  Calls Tryz.prog 3 #[v] w fun e w' => e = .returned (.bool true) ∧ Only (fun _ => False) w w' := by
 have CB := hid (pBuild v cs w hc hT hE)
 have CR := hid (fun W (hW : Only (fun _ => False) w W) => refBuild v cs W (hc.only hW) ht)
 have CA := hid awake9
 clear hc hT hE ht
 go_enter Tryz.func3, Tryz.ntmps3
 go_wp2_with (fail)
 refine CB.out.mono ?_
 rintro e w1 ⟨ho1, hcase⟩
 have HO1 := hid ho1
 clear CB
 rcases hcase with ⟨hz, rfl⟩ | ⟨hz, pb, fv, cl, rfl, hm⟩
 ·have HZ := hid hz
  clear hz
  go_wp2_with (fail)
  refine (CR.out _ ho1).mono ?_
  rintro e w2 ⟨ho2, hcase⟩
  clear ho1
  rcases hcase with ⟨_, rfl⟩ | ⟨hz2, _⟩
  ·have HO2 := hid (HO1.out.trans ho2 (fun _ h _ => h))
   have hbz : (buildZ cs != buildZ cs) = false := by simp
   generalize buildZ cs = bz at *
   clear ho2
   go_wp2
   go_ret
   exact ⟨rfl, HO2.out⟩
  ·exact absurd hz2 HZ.out
 ·obtain ⟨hl16, h0, hR⟩ := build_zero hz
  have HM := hid hm
  have HZ := hid hz
  clear hm hz
  go_wp2_with (fail)
  refine (CR.out _ ho1).mono ?_
  rintro e w2 ⟨ho2, hcase⟩
  clear ho1
  rcases hcase with ⟨hz2, _⟩ | ⟨_, qb, rfl, hd⟩
  ·exact absurd HZ.out hz2
  have HO2 := hid (HO1.out.trans ho2 (fun _ h _ => h))
  have CW := hid (wholeP h0 hR hl16 (HM.out.only ho2) hd)
  clear ho2 hd h0 hR hl16 CR HM HZ
  go_wp2_with (fail)
  refine CW.out.mono ?_
  rintro e w3 ⟨rfl, ho3⟩
  have HO3 := hid (HO2.out.trans ho3 (fun _ h _ => h))
  clear ho3
  go_wp2_with (fail)
  refine (CA.out _).mono ?_
  rintro e w4 ⟨rfl, ho4⟩
  have HO4 := hid (HO3.out.trans ho4 (fun _ h _ => h))
  clear ho4
  go_wp2
  go_ret
  exact ⟨rfl, HO4.out⟩
end Go.Proofs.YtemplkpcckmcoaaGreatDoor
