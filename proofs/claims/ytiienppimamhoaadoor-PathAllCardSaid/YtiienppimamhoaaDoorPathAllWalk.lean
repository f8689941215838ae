/- The walk of the law PathAll: for every text the law answers true. -/
import Derived.Test.YtiienppimamhoaaDoorPawake
import Derived.Test.YtiienppimamhoaaDoorPrf
import Derived.Test.YtiienppimamhoaaDoorPrabs
namespace Go.Proofs.YtiienppimamhoaaDoor.PathAll
open Go.RowKit Go.Proofs.YtiienppimamhoaaDoor.Pth Go.Proofs.YtiienppimamhoaaDoor.Pfn Go.Proofs.YtiienppimamhoaaDoor.Prf Go.Proofs.YtiienppimamhoaaDoor.Pabs Go.Proofs.YtiienppimamhoaaDoor.Prabs Go.Proofs.YtiienppimamhoaaDoor.Pawake

set_option maxHeartbeats 1000000 in
theorem walk_long (s : ByteArray) (w : World) (hs : s.size ≤ 140737488355328) (h : 500 < s.size) :
    Calls Tryd.prog 3 #[.string s] w fun e W' => e = .returned (.bool true) ∧ Below w.heap.size w W' := by
  go_enter Tryd.func3, Tryd.ntmps3
  go_wp2_with (go_at_call 7; refine (awake_is _).mono ?_; rintro e w' ⟨rfl, hb⟩)
  go_ret
  exact ⟨rfl, hb⟩

set_option maxHeartbeats 2000000 in
theorem walk_short (s : ByteArray) (w : World) (h : s.size ≤ 500) :
    Calls Tryd.prog 3 #[.string s] w fun e W' => e = .returned (.bool true) ∧ Below w.heap.size w W' := by
  have D1 := Lib.hid (fun W => dir_is s W (by omega))
  have E1 := Lib.hid (fun W => refDir_is s W (by omega))
  have D2 := Lib.hid (fun W => notdir_is s W (by omega))
  have E2 := Lib.hid (fun W => refNotdir_is s W (by omega))
  have D3 := Lib.hid (fun W => suffix_is s W (by omega))
  have E3 := Lib.hid (fun W => refSuffix_is s W (by omega))
  have D4 := Lib.hid (fun W => base_is s W (by omega))
  have E4 := Lib.hid (fun W => refBase_is s W (by omega))
  have D5 := Lib.hid (fun W => abs_is s W (by omega))
  have E5 := Lib.hid (fun W => refAbs_is s W (by omega))
  generalize dirB s = r1 at D1 E1
  generalize notdirB s = r2 at D2 E2
  generalize sufB s = r3 at D3 E3
  generalize baseB s = r4 at D4 E4
  generalize bs (absL s.data.toList) = r5 at D5 E5
  go_enter Tryd.func3, Tryd.ntmps3
  go_wp2_with fail
  refine (D1.out _).mono ?_
  rintro e w' ⟨rfl, rfl⟩
  go_wp2_with fail
  refine (E1.out _).mono ?_
  rintro e w' ⟨rfl, rfl⟩
  clear D1 E1
  go_wp2_with fail
  refine (D2.out _).mono ?_
  rintro e w' ⟨rfl, rfl⟩
  go_wp2_with fail
  refine (E2.out _).mono ?_
  rintro e w' ⟨rfl, rfl⟩
  clear D2 E2
  go_wp2_with fail
  refine (D3.out _).mono ?_
  rintro e w' ⟨rfl, rfl⟩
  go_wp2_with fail
  refine (E3.out _).mono ?_
  rintro e w' ⟨rfl, rfl⟩
  clear D3 E3
  go_wp2_with fail
  refine (D4.out _).mono ?_
  rintro e w' ⟨rfl, rfl⟩
  go_wp2_with fail
  refine (E4.out _).mono ?_
  rintro e w' ⟨rfl, rfl⟩
  clear D4 E4
  go_wp2_with fail
  refine (D5.out _).mono ?_
  rintro e w1 ⟨rfl, hb⟩
  have B1 := Lib.hid hb
  clear hb D5
  go_wp2_with fail
  refine (E5.out _).mono ?_
  rintro e w2 ⟨rfl, hb⟩
  have B2 := Lib.hid (B1.out.trans (hb.mono B1.out.size))
  clear hb E5 B1
  go_wp2_with fail
  refine (awake_is _).mono ?_
  rintro e w3 ⟨rfl, hb⟩
  have B3 := Lib.hid (B2.out.trans (hb.mono B2.out.size))
  clear hb B2
  go_wp2
  go_ret
  exact ⟨rfl, B3.out⟩

theorem walk (s : ByteArray) (w : World) (hs : s.size ≤ 140737488355328) :
    Calls Tryd.prog 3 #[.string s] w fun e W' => e = .returned (.bool true) ∧ Below w.heap.size w W' := by
  by_cases h : s.size ≤ 500
  · exact walk_short s w h
  · exact walk_long s w hs (by omega)

end Go.Proofs.YtiienppimamhoaaDoor.PathAll
