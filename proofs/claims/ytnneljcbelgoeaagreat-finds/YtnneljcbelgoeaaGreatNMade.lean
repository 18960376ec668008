import Derived.Test.YtnneljcbelgoeaaGreatNMade1
/- gossipkeep.made: nodes that know each other. -/
namespace Go.Proofs.YtnneljcbelgoeaaGreat.wire
open Go.RowKit Go.Maps

theorem Nodes.frm {S : List Nat} {W W' : World} {L : List Nn} (h : Nodes W L) (hf : Frm S W W') (hn : ∀ (i : Nat) (hi : i < L.length), ∀ k ∈ (L[i]).feet, k ∉ S) : Nodes W' L := ⟨fun i hi => (h.here i hi).frm hf (hn i hi), h.apart⟩
theorem MI.nil (W wr : World) (n : Nat) (hb : Below W.heap.size W wr) : MI W wr (.slice none 0 0) n 0 [] :=
  ⟨⟨[], Nodes.nil wr, rfl, ⟨rfl, .inl ⟨rfl, rfl⟩⟩, by simp⟩, fun j h => absurd h (by simp), hb⟩
/-- One more. -/
theorem MI.push {W wr w2 w3 : World} {o o' : Value} {n : Nat} {xs : List Nd} (h : MI W wr o n 0 xs) (hb : Below wr.heap.size wr w2) {nb mb : Nat} {cb : Dk} {g : Cfg} {dl : List Int} (hg : cfgB g = true) (hs : g.self = (xs.length : Int) + 1) (hsn : xs.length < n)
    (hn : NAt w2 nb mb cb (.slice none 0 0) (.slice none 0 0) (Nd.new g dl)) (h1 : wr.heap.size ≤ nb) (h2 : wr.heap.size ≤ mb) (h3 : wr.heap.size ≤ cb.c) (h4 : ∀ k ∈ cb.all, wr.heap.size ≤ k) (hdl : DlOk dl) (oo : Obj)
    (hgr : (w2.alloc oo).grownBy w3 o.ownBlock) (hrow : ∀ L : List Nn, wr.ownsRow W.heap.size 25 1 o xs.length (L.map fun a => ptrV a.nb) → w3.ownsRow W.heap.size 25 1 o' (xs.length + 1) ((L.map fun a => ptrV a.nb) ++ [ptrV nb])) :
    MI W w3 o' n 0 (xs ++ [Nd.new g dl]) := by
  obtain ⟨L, hL, hx, hr, hfr⟩ := h.ex
  have hb3 : Below W.heap.size W w3 := ((h.below.trans (hb.mono h.below.size)).alloc (Nat.le_trans h.below.size hb.size) oo).grown hgr (by have := h.below.size; have := hb.size; simp; omega) (fun k hk => (own_lt hr hk).1)
  have hN2 : Nodes w2 (L ++ [⟨nb, mb, cb, .slice none 0 0, .slice none 0 0, Nd.new g dl⟩]) := hL.push hb hn (fun k hk => by
    simp only [Nn.feet, feet, Value.ownBlock, Option.toList_none, List.nil_append, List.mem_cons] at hk
    rcases hk with rfl | rfl | rfl | hk
    · exact h1
    · exact h2
    · exact h3
    · exact h4 k hk)
  have hN2a : Nodes (w2.alloc oo) (L ++ [⟨nb, mb, cb, .slice none 0 0, .slice none 0 0, Nd.new g dl⟩]) := hN2.below ((Below.refl _ _).alloc (Nat.le_refl _) oo)
  have hr2 : (w2.alloc oo).ownsRow W.heap.size 25 1 o xs.length (L.map fun a => ptrV a.nb) := (own_below2 hr hb).alloc oo
  have hf : Frm o.ownBlock.toList (w2.alloc oo) w3 := Frm.of_grown hgr (fun k hk => .inl (by simp [hk]))
  have hN3 := hN2a.frm hf (fun i hi k hk hk2 => by
    simp only [Option.mem_toList] at hk2
    obtain ⟨cs, hcs⟩ := own_blk hr2 hk2
    exact (hN2a.here i hi).not_feet hcs (by decide) (by decide) (by decide) (by decide) hk)
  refine ⟨⟨L ++ [⟨nb, mb, cb, .slice none 0 0, .slice none 0 0, Nd.new g dl⟩], hN3, by simp [hx], ?_, ?_⟩, ?_, hb3⟩
  · have := hrow L hr
    simpa using this
  · intro a ha k hk
    rcases List.mem_append.1 ha with ha | ha
    · exact hfr a ha k hk
    · simp at ha; subst ha
      simp only [Nn.feet, feet, Value.ownBlock, Option.toList_none, List.nil_append, List.mem_cons] at hk
      have := h.below.size
      rcases hk with rfl | rfl | rfl | hk
      · omega
      · omega
      · omega
      · have := h4 k hk; omega
  · intro j hj
    by_cases hjl : j < xs.length
    · rw [List.getElem_append_left hjl]; exact h.nice j hjl
    · have : j = xs.length := by simp at hj; omega
      subst this
      have hni := nice_new g hg n (by omega) hdl
      rw [hs] at hni
      simpa using ⟨hni, new_b g dl⟩
theorem own_unique {w : World} {b1 b2 : Nat} {e : TypeId} {s : Nat} {v : Value} {n : Nat} {xs ys : List Value} (h : w.ownsRow b1 e s v n xs) (h' : w.ownsRow b2 e s v n ys) : xs = ys := by
  rcases h.2 with ⟨rfl, e0⟩ | ⟨g, cap, cur, rfl, _, hg, _, _, _, h4⟩
  · have a := h.1
    have b := h'.1
    subst e0
    simp at a b
    rw [a, b]
  · rcases h'.2 with ⟨e1, _⟩ | ⟨g', cap', cur', e1, _, hg', _, _, _, h4'⟩
    · cases e1
    · cases e1
      rw [hg] at hg'
      cases hg'
      exact h4.symm.trans h4'
theorem others_len {n : Nat} {i : Nat} {x : Nd} (h : Nice n ((i : Int) + 1) x) (hk : ∀ q : Nat, q < i → Knows ((q : Int) + 1) x) : i ≤ x.others.length := by
  have := len_sub ((List.range i).map (fun q : Nat => (q : Int) + 1)) (x.others.map K3.id) (by
    rw [List.Nodup, List.pairwise_map]
    exact (List.pairwise_lt_range (n := i)).imp (fun {a b} hlt e => by omega)) (fun a ha => by
    obtain ⟨q, hq, rfl⟩ := List.mem_map.1 ha
    have hq' := List.mem_range.1 hq
    have hkn := hk q hq'
    unfold Knows at hkn
    obtain ⟨m, hm⟩ := Option.isSome_iff_exists.1 hkn
    obtain ⟨m1, m2⟩ := findM_in hm
    refine List.mem_map.2 ⟨m.k, List.mem_map.2 ⟨m, List.mem_filter.2 ⟨m1, ?_⟩, rfl⟩, m2⟩
    rw [h.self]; simp; omega)
  simpa using this
theorem Tryz.infoPtrL : (Tryz.prog.info? 25).map (fun i => (i.zero, i.size, i.bytes)) = some (some (.pointer none), 1, 8) := by kernel_rfl
set_option maxHeartbeats 4000000 in
set_option maxRecDepth 100000 in
theorem made_any (n : Nat) (hn1 : 1 ≤ n) (hn6 : n ≤ 6) (c : Int) (h0 : -9223372036854775808 ≤ c) (h1 : c ≤ 9223372036854775807) (l : List Int) (hl : l.length ≤ maxLen) {ao : Option Addr} {cap : Nat} {W : World} (hv : RawI W ao l) (hrng : ∀ z ∈ l, -9223372036854775808 ≤ z ∧ z ≤ 9223372036854775807) :
    Calls Tryz.prog 8 #[.int .i64 n, .int .i64 c, .slice ao l.length cap] W fun e w' => ∃ lv xs, e = .returned lv ∧ xs.length = n ∧ AK c n n xs ∧ MI W w' lv n 5000 xs := by
  obtain ⟨ti, hti, hz0, hz1, hz2⟩ := info_parts Tryz.infoPtrL
  have HF := hide (few_any l hl (cap := cap) hv)
  clear hv
  go_enter Tryz.func8, Tryz.ntmps8
  go_wp2_with fail
  refine (unhide HF).mono ?_
  rintro e w1 ⟨dv, rfl, hd1, hb1⟩
  have hdl : (l.take 50).length ≤ 50 := by simp; omega
  have hDl : DlOk (l.take 50) := ⟨fun z hz => hrng z (List.mem_of_mem_take hz), by omega⟩
  generalize l.take 50 = D at hd1 hdl hDl
  have HDL := hide hDl
  clear hDl
  obtain ⟨dao, dcap, rfl⟩ := own_form hd1
  have HD1 := hide (own_mono hd1 (Nat.zero_le _))
  have HB1 := hide hb1
  clear hd1 hb1 HF
  go_wp2
  go_loopw [8, 9] (fun o i wr => ∃ (k : Nat) (xs : List Nd), k ≤ n ∧ i = .int .i64 (k + 1) ∧ xs.length = k ∧ Hid (AK c n 0 xs) ∧ Hid (MI W wr o n 0 xs) ∧ Hid (wr.ownsRow 0 3 1 (.slice dao D.length dcap) D.length (D.flatMap intC))) (fun _ i _ => n + 1 - (Go.RowKit.intOf i).toNat)
  case atStart => exact ⟨0, [], Nat.zero_le _, rfl, rfl, ⟨fun j h => absurd h (by simp), fun a p h => absurd h (by simp)⟩, MI.nil W w1 n (unhide HB1), HD1⟩
  case round =>
    obtain ⟨k, xs, hk, rfl, hxl, HAK, HI, HD⟩ := hrel
    by_cases hlt : k < n
    · have hlt' : (k : Int) + 1 ≤ (n : Int) := by omega
      have HC := hide (config_any ((k : Int) + 1) c (by omega) h0 h1 wr)
      go_wp2_with fail
      refine (unhide HC).mono ?_
      rintro e w2 ⟨g, hgz, rfl, hgs, hgc, hb2⟩
      have HGZ := hide hgz
      clear hgz
      have HGS := hide hgs
      have HGC := hide hgc
      have HB2 := hide hb2
      have HN := hide (pnew_any g hgc D (by omega) (W := w2.alloc (.cells #[.int .i64 g.self, .int .i64 g.period, .int .i64 g.wait, .int .i64 g.suspect, .int .i64 g.proxies, .int .i64 g.sends] 53)) ((own_below2 (unhide HD) hb2).alloc _))
      clear hgs hgc hb2 HC
      go_wp2_with fail
      refine (unhide HN).mono ?_
      rintro e w3 ⟨nb, mb, cb, rfl, l1, l2, ⟨l3, l4⟩, hn3, hb3⟩
      have hb23 : Below wr.heap.size wr w3 := ((unhide HB2).alloc (unhide HB2).size _).trans (hb3.mono (by have := (unhide HB2).size; simp; omega))
      have hs2 := (unhide HB2).size
      simp only [World.size_alloc] at l1 l2 l3 l4
      have HN3 := hide hn3
      have HB3 := hide hb23
      have HD3 := hide (own_below2 (unhide HD) hb23)
      clear hn3 hb3 hb23 HN HD
      obtain ⟨L, hL, hx, hr, hfr⟩ := (unhide HI).ex
      have HR := hide hr
      have hwl := (unhide HI).below.size
      clear hL hx hr hfr
      go_wp2_with (at_builtin; refine wpList_append_own _ rfl _ _ 23 rfl W.heap.size 25 ti (.pointer none) 1 8 Tryz.underlying23 hti hz0 hz1 hz2 rfl (by decide) _ xs.length _ rfl ((own_below2 (unhide HR) (unhide HB3)).alloc _) ⟨w3.heap.size, 0, none⟩ 1 1 [ptrV nb] rfl rfl ?c1 ?c2 ?c3 ?c4 ?c5 ?_)
      case c1 => exact World.news_of_block (heap_alloc_new w3 _)
      case c2 => intro u hu; simp at hu; subst hu; rfl
      case c3 => unfold maxLen; omega
      case c4 => omega
      case c5 => have := (unhide HB3).size; simp; omega
      intro o' w4 hown' hgrow _
      have hnew := (unhide HI).push (unhide HB3) (unhide HGC) (by rw [unhide HGS, hxl]) (by omega) (unhide HN3) (by omega) (by omega) (by omega) (fun k hk => by have := l4 k hk; omega) (unhide HDL) _ hgrow (fun L' hL' => by rw [own_unique hL' (unhide HR), hxl]; exact hown')
      have HI2 := hide hnew
      have hf4 : Frm u8.ownBlock.toList (w3.alloc (.cells #[.pointer (some ⟨nb, 0, none⟩)] 25)) w4 := Frm.of_grown hgrow (fun j hj => .inl (by simp [hj]))
      have HD4 := hide (own_frm ((unhide HD3).alloc (.cells #[.pointer (some ⟨nb, 0, none⟩)] 25)) hf4 (fun j hj hj2 => by
        simp only [Option.mem_toList] at hj2
        obtain ⟨cs, hcs⟩ := own_blk ((unhide HD3).alloc (.cells #[.pointer (some ⟨nb, 0, none⟩)] 25)) hj
        obtain ⟨cs', hcs'⟩ := own_blk ((own_below2 (unhide HR) (unhide HB3)).alloc (.cells #[.pointer (some ⟨nb, 0, none⟩)] 25)) hj2
        rw [hcs] at hcs'; cases hcs'))
      clear hown' hgrow hnew hf4 HR HN3 HD3 HB3 HB2
      go_wp2
      go_roundw
      case rel =>
        refine ⟨k + 1, xs ++ [Nd.new g D], by omega, by go_num, by simp [hxl], hide ((unhide HAK).push (by rw [hxl]; exact unhide HGZ)), HI2, HD4⟩
      case measure => simp [Go.RowKit.intOf]; omega
    · have e : k = n := by omega
      subst e
      have hlt' : ¬ (k : Int) + 1 ≤ (k : Int) := by omega
      clear HD HD1 HB1 hti hz0 hz1 hz2
      obtain ⟨L, hL, hx, hr, hfr⟩ := (unhide HI).ex
      rcases hr.2 with ⟨_, e0⟩ | ⟨g, lcap, cur, rfl, _, hgb, _, hcm, _, _⟩
      · omega
      have hgl := lt_blk hgb
      have hk1 : k ≤ lcap := by omega
      clear hL hx hr hfr hgb
      have HI0 := hide ((unhide HI).wide (B' := 11 * k * 0) (by omega))
      go_wp2
      go_loopw [13] (fun i wr => ∃ (i' : Nat) (xs : List Nd), i' ≤ k ∧ i = .int .i64 i' ∧ xs.length = k ∧ Hid (AK c k i' xs) ∧ Hid (MI W wr (.slice (some ⟨g, 0, none⟩) k lcap) k (11 * k * i') xs)) (fun i _ => k - (Go.RowKit.intOf i).toNat)
      case atStart => exact ⟨0, xs, Nat.zero_le _, rfl, hxl, HAK, by rw [hxl] at HI0; exact HI0⟩
      case round =>
        obtain ⟨i', ys, hi, rfl, hyl, HAY, HJ⟩ := hrel
        by_cases hi2 : i' < k
        · have hi2' : (i' : Int) < (k : Int) := by omega
          have HJ0 := hide ((unhide HJ).wide (B' := 11 * k * i' + 11 * 0) (by omega))
          have hb66 : (11 : Int) * k * i' ≤ 396 := by
            have a : (k : Int) * i' ≤ 6 * 6 := Int.mul_le_mul (by omega) (by omega) (by omega) (by omega)
            rw [Int.mul_assoc]; omega
          have hb60 : (0 : Int) ≤ 11 * k * i' := by
            have a : (0 : Int) ≤ k * i' := Int.mul_nonneg (by omega) (by omega)
            rw [Int.mul_assoc]; omega
          generalize hBB : (11 : Int) * k * i' = BB at HJ0 hb66 hb60
          have HBB := hide hBB
          clear hBB HI HI0 HJ
          go_wp2
          go_loopw [14] (fun q wr => ∃ (q' : Nat) (zs : List Nd) (x : Nd), q' ≤ k ∧ q = .int .i64 q' ∧ zs.length = k ∧ zs[i']? = some x ∧ Hid (AK c k i' zs) ∧ Hid (MI W wr (.slice (some ⟨g, 0, none⟩) k lcap) k (BB + 11 * q') zs) ∧ Hid (∀ p : Nat, p < q' → p ≠ i' → Knows ((p : Int) + 1) x)) (fun q _ => k - (Go.RowKit.intOf q).toNat)
          case atStart => exact ⟨0, ys, ys[i'], Nat.zero_le _, rfl, hyl, by rw [List.getElem?_eq_getElem], HAY, HJ0, fun p hp => absurd hp (by omega)⟩
          case round =>
            obtain ⟨q', zs, x, hq, rfl, hzl, hzx, HAZ, HM, HKN⟩ := hrel
            by_cases hq2 : q' < k
            · have hq2' : (q' : Int) < (k : Int) := by omega
              by_cases hqi : q' = i'
              · have hqi' : ((q' : Int) == (i' : Int)) = true := by simp [hqi]
                have HQI := hide hqi
                clear hqi
                go_wp2
                go_roundw
                case rel => exact ⟨q' + 1, zs, x, by omega, by go_num, hzl, hzx, HAZ, (unhide HM).wide (by omega), fun p hp hpi => (unhide HKN) p (by have := unhide HQI; omega) hpi⟩
                case measure => simp [Go.RowKit.intOf]; omega
              · have hqi' : ((q' : Int) == (i' : Int)) = false := by simp; omega
                have hzi : zs[i']'(by omega) = x := by
                  have := hzx
                  rw [List.getElem?_eq_getElem (by omega)] at this
                  exact Option.some.inj this
                obtain ⟨nbi, mbi, cbi, pvi, rvi, g1, cap1, hlv1, hci, hcs, _, _⟩ := (unhide HM).call i' (by omega)
                rw [hzl] at hlv1
                cases hlv1
                obtain ⟨csr, hcsr⟩ := hcs
                have HROW := hide hcsr
                have hB0 : BB + 11 * (q' : Int) ≤ 10000 := by omega
                have HC1 := hide ((unhide HM).join hB0 i' q' (by omega) (by omega) hqi (by rw [hzl]) hci)
                clear hcsr
                go_wp2_with fail
                refine (unhide HC1).mono ?_
                rintro e w2 ⟨o, qq, x1, rfl, hqq, ho, hM2, hk1', hkp2⟩
                obtain ⟨og, ocap, rfl, hog, o0, o1, ocs, hocs⟩ := outs_cells ho
                have hrow2 := hkp2 _ _ _ (unhide HROW) (by decide) (by decide) (by decide) (by decide)
                have hz2 : (zs.set i' x1).length = k := by simp [hzl]
                obtain ⟨nbk, mbk, cbk, pvk, rvk, g2, cap2, hlv2, hck, _, _, _⟩ := hM2.call q' (by omega)
                rw [hz2] at hlv2
                cases hlv2
                have HC2 := hide (hM2.drew.gotJoin (by omega) i' q' (by omega) hi2 (by omega) hqi hqq (by rw [hz2]) hck)
                have HM2 := hide hM2
                have HROW2 := hide hrow2
                have HOCS := hide hocs
                have HK1 := hide hk1'.kn
                have HA1 := hide ((unhide HAZ).set i' (by omega) hk1')
                have hci2 : w2.cell? ⟨g, i', none⟩ = some (.pointer (some ⟨nbi, 0, none⟩)) := by rw [cell_at hrow2, ← cell_at (unhide HROW)]; exact hci
                have HCI2 := hide hci2
                clear HC1 ho hM2 hkp2 hrow2 hocs hk1' hci hci2
                generalize bytesM (joinM ((i' : Int) + 1) qq) = BS1 at o1 HC2
                go_wp2_with fail
                go_region_held3 (fun w' => w'.cell? ⟨g, q', none⟩ = some (.pointer (some ⟨nbk, 0, none⟩)) ∧ w'.cell? ⟨og, 1, none⟩ = some (.string (bs BS1))) (go_keep)
                  (first
                    | (go_at_call 11; refine (unhide HC2).mono ?_; rintro e w3 ⟨o2, lk, x2, rfl, ho2, hwh, hlk, hM3, hgr3, hkp3'⟩; have hkp3 := kept_drew hkp3'; have hrow3 := hkp3 _ _ _ (unhide HROW2) (by decide) (by decide) (by decide) (by decide); have hocs3 := hkp3 _ _ _ (unhide HOCS) (by decide) (by decide) (by decide) (by decide); have s1 : w3.cell? ⟨g, q', none⟩ = some (.pointer (some ⟨nbk, 0, none⟩)) := (cell_at hrow3 q').trans ((cell_at (unhide HROW2) q').symm.trans hck); have s2 : w3.cell? ⟨og, 1, none⟩ = some (.string (bs BS1)) := (cell_at hocs3 1).trans ((cell_at (unhide HOCS) 1).symm.trans o1)))
                obtain ⟨bg, bcap, rfl, hbg, b0, b1, bcs, hbcs⟩ := outs_cells ho2
                have hz3 : ((zs.set i' x1).set q' x2).length = k := by simp [hzl]
                have hget3 : ((zs.set i' x1).set q' x2)[i']'(by omega) = x1 := by
                  rw [List.getElem_set_ne hqi, List.getElem_set_self]
                have hci3 : w3.cell? ⟨g, i', none⟩ = some (.pointer (some ⟨nbi, 0, none⟩)) := (cell_at hrow3 i').trans ((cell_at (unhide HROW2) i').symm.trans (unhide HCI2))
                have HC3 := hide (hM3.drew.gotTable (by omega) (by omega) i' q' (by omega) hq2 (by omega) hqi hwh hlk (by rw [hz3]) hci3)
                have HROW3 := hide hrow3
                have HA2 := hide ((unhide HA1).set q' (by omega) hgr3)
                clear hgr3
                have HBCS := hide hbcs
                clear HC2 ho2 hM3 hkp3 hkp3' hrow3 hocs3 s1 s2 hbcs HROW2 HOCS HM2 hwh hlk
                generalize bytesM (tableM ((q' : Int) + 1) qq lk) = BS2 at b1 HC3
                go_wp2_with fail
                go_region_held3 (fun w' => w'.cell? ⟨g, i', none⟩ = some (.pointer (some ⟨nbi, 0, none⟩)) ∧ w'.cell? ⟨bg, 1, none⟩ = some (.string (bs BS2))) (go_keep)
                  (first
                    | (go_at_call 11; refine (unhide HC3).mono ?_; rintro e w4 ⟨o3, x3, rfl, hM4, hkn4, hkk4, hkp4'⟩; have hkp4 := kept_drew hkp4'; have s1 : w4.cell? ⟨g, i', none⟩ = some (.pointer (some ⟨nbi, 0, none⟩)) := (cell_at (hkp4 _ _ _ (unhide HROW3) (by decide) (by decide) (by decide) (by decide)) i').trans ((cell_at (unhide HROW3) i').symm.trans hci3); have s2 : w4.cell? ⟨bg, 1, none⟩ = some (.string (bs BS2)) := (cell_at (hkp4 _ _ _ (unhide HBCS) (by decide) (by decide) (by decide) (by decide)) 1).trans ((cell_at (unhide HBCS) 1).symm.trans b1)))
                have HM4 := hide (hM4.wide (B' := BB + 11 * ((q' + 1 : Nat) : Int)) (by omega))
                have hkk : ∀ p : Nat, p < q' + 1 → p ≠ i' → Knows ((p : Int) + 1) x3 := fun p hp hpi => by
                  by_cases e : p = q'
                  · subst e; exact hkn4
                  · exact hkk4.kn _ (by rw [hget3]; exact (unhide HK1) _ (by rw [hzi]; exact (unhide HKN) p (by omega) hpi))
                have HKK := hide hkk
                have HA3 := hide ((unhide HA2).set i' (by omega) hkk4)
                clear hM4 hkn4 hkk4 hkp4 hkp4' hkk HC3
                go_wp2
                go_roundw
                case rel => exact ⟨q' + 1, _, x3, by omega, by go_num, by simp [hzl], by rw [List.getElem?_set_self (by simp [hzl]; exact hi2)], HA3, HM4, HKK⟩
                case measure => simp [Go.RowKit.intOf]; omega
            · have e : q' = k := by omega
              subst e
              have hq2' : ¬ (q' : Int) < (q' : Int) := by omega
              have hzi : zs[i']'(by omega) = x := by
                have := hzx
                rw [List.getElem?_eq_getElem (by omega)] at this
                exact Option.some.inj this
              obtain ⟨nbi, mbi, cbi, pvi, rvi, g1, cap1, hlv1, hci, _, hni, _⟩ := (unhide HM).call i' (by omega)
              rw [hzl] at hlv1
              cases hlv1
              obtain ⟨hnice, _⟩ := (unhide HM).nice i' (by omega)
              have HA5 := hide ((unhide HAZ).more (by omega) (fun p hp hpi => by rw [hzi]; exact (unhide HKN) p hp hpi))
              have HS := hide (see_any hnice.ok hni)
              have hol := others_len hnice (fun p hp => by rw [hzi]; exact (unhide HKN) p (by omega) (by omega))
              have hol' : ¬ ((zs[i']'(by omega)).others.length : Int) < (i' : Int) := by omega
              generalize zs[i']'(by omega) = X at HS hol'
              clear hni hnice hol
              go_wp2_with fail
              refine (unhide HS).mono ?_
              rintro e w5 ⟨sv, rfl, hso, hb5⟩
              obtain ⟨sao, scap, rfl⟩ := own_form hso
              have HM5 := hide ((((unhide HM).mono hb5).mono ((Below.refl _ _).alloc (Nat.le_refl _) (.cells #[.int .i64 X.clock, .int .i64 X.own.id, .int .i64 X.own.inc, .int .i64 X.own.st, .slice sao X.others.length scap, .int .i64 X.ptgt, .int .i64 X.pending, .int .i64 X.rels.length, .int .i64 X.dropped, .int .i64 X.lost] 43))).wide (B' := 11 * q' * ((i' + 1 : Nat) : Int)) (by
                have := unhide HBB
                rw [← this, Int.natCast_add, Int.mul_add]; omega))
              clear hso hb5 HS hci
              go_wp2
              go_roundw
              case rel => exact ⟨i' + 1, zs, by omega, by go_num, hzl, HA5, HM5⟩
              case measure => simp [Go.RowKit.intOf]; omega
        · have e : i' = k := by omega
          subst e
          have hi2' : ¬ (i' : Int) < (i' : Int) := by omega
          go_wp2
          go_ret
          refine ⟨_, rfl, ys, hyl, unhide HAY, (unhide HJ).wide ?_⟩
          have a : (i' : Int) * i' ≤ 6 * 6 := Int.mul_le_mul (by omega) (by omega) (by omega) (by omega)
          rw [Int.mul_assoc]; omega
end Go.Proofs.YtnneljcbelgoeaaGreat.wire
