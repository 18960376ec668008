import Derived.Test.YtnneljcbelgoeaaGreatNMembers
/- The others' keys. -/
namespace Go.Proofs.YtnneljcbelgoeaaGreat.wire
open Go.RowKit Go.Maps

/-- The others' keys. -/
def Nd.others (x : Nd) : List K3 := (x.tab.filter (fun m => !(m.k.id == x.c.self))).map Mem.k
set_option maxHeartbeats 1000000 in
theorem others_any {x : Nd} (hx : NdOk x) {nb mb : Nat} {cb : Dk} {pv rv : Value} {W : World} (hn : NAt W nb mb cb pv rv x) :
    Calls Tryz.prog 26 #[.pointer (some ⟨nb, 0, none⟩)] W fun e w' => ∃ v, e = .returned v ∧ w'.ownsRow W.heap.size 31 3 v x.others.length (x.others.flatMap keyC) ∧ Below W.heap.size W w' := by
  have hlen := hx.len
  have hlen1 : x.tab.length ≤ 1000 := by omega
  have hlen2 : (x.tab.filter (fun m => !(m.k.id == x.c.self))).length ≤ 1000 := Nat.le_trans (List.length_filter_le _ _) hlen1
  have hE1 := enters_of Tryz.func53 (by kernel_rfl) rfl
  have hE2 := enters_of Tryz.func54 (by kernel_rfl) rfl
  have HM := hide (members_any hx hn)
  have HN := hide hn
  have hoth : x.others = (x.tab.filter (fun m => !(m.k.id == x.c.self))).map Mem.k := rfl
  rw [hoth]
  clear hx hn hoth
  go_enter Tryz.func26, Tryz.ntmps26
  go_wp2_with fail
  refine (unhide HM).mono ?_
  rintro e w1 ⟨v1, rfl, ho1, hb1⟩
  have HO1 := hide ho1
  have HB1 := hide hb1
  clear ho1 hb1 HM
  go_wp2_with fail
  refine (dropM_any x.tab (fun m => m.k.id == x.c.self) 53 #[.pointer (some ⟨nb, 0, none⟩)] #[] (unhide HO1) hlen1 hE1 (fun m W' hW' => isSelf_any (((unhide HN).below (unhide HB1)).below hW') m)).mono ?_
  rintro e w2 ⟨v2, rfl, ho2, hb2⟩
  have HO2 := hide ho2
  have HB2 := hide ((unhide HB1).trans (hb2.mono (unhide HB1).size))
  clear ho2 hb2 HO1 HB1
  go_wp2_with fail
  refine (turnMK_any (x.tab.filter (fun m => !(m.k.id == x.c.self))) Mem.k 54 #[] #[] (unhide HO2) hlen2 hE2 (fun m _ W' _ => key_any m W')).mono ?_
  rintro e w3 ⟨v3, rfl, ho3, hb3⟩
  have HO3 := hide (own_mono ho3 (unhide HB2).size)
  have HB3 := hide ((unhide HB2).trans (hb3.mono (unhide HB2).size))
  clear ho3 hb3 HO2 HB2
  go_wp2
  go_ret
  exact ⟨v3, rfl, unhide HO3, unhide HB3⟩
end Go.Proofs.YtnneljcbelgoeaaGreat.wire
