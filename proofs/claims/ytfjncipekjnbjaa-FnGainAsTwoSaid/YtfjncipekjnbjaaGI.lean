/-
  Chapter 5: other tables told: the model's withTable; the program's saidBy, hasBidder, gainUnder.
-/
import Derived.Test.YtfjncipekjnbjaaGY
namespace Go.Proofs.Ytfjncipekjnbjaa
open Go.RowKit

theorem VTs.set_ {ts : List (List Int)} (h : VTs ts) (i : Nat) {t : List Int} (ht : VT t) : VTs (ts.set i t) := ⟨by simpa using h.1, fun q hq => by
  rcases List.mem_or_eq_of_mem_set hq with hq | hq
  · exact h.2 q hq
  · rw [hq]; exact ht⟩
theorem VTs.snoc {ts : List (List Int)} (h : VTs ts) (hl : ts.length ≤ 3) {t : List Int} (ht : VT t) : VTs (ts ++ [t]) := ⟨by simp; omega, fun q hq => by
  rcases List.mem_append.1 hq with hq | hq
  · exact h.2 q hq
  · rw [List.mem_singleton.1 hq]; exact ht⟩
theorem CopyIs.rdr {w w' : World} {rows : List (List Int)} {n g c : Nat} {vs : List Value} (ho : w'.ownsRow w.heap.size 24 1 (.slice (some ⟨g, 0, none⟩) n c) n vs) (hv : RowsV w vs rows) (hn : rows.length = n) (hb : Below w.heap.size w w') : RdR w' (some ⟨g, 0, none⟩) c rows := CopyIs.shape_ ho hv hn hb

set_option maxHeartbeats 400000 in
theorem SwithTable_any (b off c i n d m : Nat) (T : Option Addr) (ts : List (List Int)) (told : List Int) (w : World) (hn : ts.length = n) (hm : told.length = m) (hR : RdR w (some ⟨b, off, none⟩) c ts) (hT : Rd w T d told) (hTd : told.length ≤ d) (hi : i < n) (hl : n ≤ 1000) :
    Calls Try.prog 72 #[.slice (some ⟨b, off, none⟩) n c, .int .i64 i, .slice T m d] w (CopyIs w (ts.set i told) n) := by
  have hb0 := (Below.refl w.heap.size w).alloc (Nat.le_refl _) (.cells #[] 24)
  have HR := Lib.hid hR
  have ho := row_empty w
  have h1l : 1 ≤ n := by omega
  have HN := Lib.hid hn
  have HT1 : Hid (Row1 w (.slice T m d) told) := Lib.hid ⟨T, d, by rw [hm], hTd, hT⟩
  clear hR hT hn hTd hm
  go_enter Try.func72, Try.ntmps72
  go_wp2_with (at_builtin; refine wpList_copy_rows rfl _ _ rfl w.heap.size w.heap.size rfl ho w b off c n ts HN.out rfl HR.out hb0 (by omega) h1l hb0.size ?_; intro g2 c2 vs w2 o2 v2 g2'; have B2 : Below w.heap.size w w2 := hb0.grown g2' hb0.size (fun k e => by cases e; exact Nat.le_refl _); have hcell := World.ownsRow.cellAt o2 i (by omega); have hfr := World.ownsRow.frozenAt o2 i; have hst := Lib.hid (World.ownsRow.stored o2 i (.slice T m d)).1; obtain ⟨vi, hvi⟩ : ∃ vi, vs[i]? = some vi := ⟨_, List.getElem?_eq_getElem (by rw [v2.1, HN.out]; exact hi)⟩; rw [hvi] at hcell; have HV := Lib.hid v2; have hge := (World.ownsRow.lt o2 g2 rfl).1; have HBS := Lib.hid (B2.setCell (p := ⟨g2, i, none⟩) hge (.slice T m d)); clear o2 v2 g2' B2 hvi)
  go_ret
  exact ⟨g2, c2, _, rfl, hst.out, HV.out.set_ i HT1.out, HBS.out⟩

set_option maxHeartbeats 400000 in
theorem saidBy_any (b off c i n d m : Nat) (T : Option Addr) (ts : List (List Int)) (told : List Int) (w : World) (hn : ts.length = n) (hm : told.length = m) (hR : RdR w (some ⟨b, off, none⟩) c ts) (hT : Rd w T d told) (hTd : told.length ≤ d) (hi : i < n) (hl : n ≤ 1000) :
    Calls Try.prog 67 #[.slice (some ⟨b, off, none⟩) n c, .int .i64 i, .slice T m d] w (CopyIs w (ts.set i told) n) := by
  have HC := Lib.hid (CloneRows_any b off c n ts w hn hR hl (by omega))
  have HN := Lib.hid hn
  have HT1 : Hid (Row1 w (.slice T m d) told) := Lib.hid ⟨T, d, by rw [hm], hTd, hT⟩
  clear hR hT hn hTd hm
  go_enter Try.func67, Try.ntmps67
  go_wp2_with fail
  refine HC.out.mono ?_
  rintro e w3 ⟨g3, c3, vs, rfl, o3, v3, b3⟩
  have hcell := World.ownsRow.cellAt o3 i (by omega)
  have hfr := World.ownsRow.frozenAt o3 i
  have hst := Lib.hid (World.ownsRow.stored o3 i (.slice T m d)).1
  obtain ⟨vi, hvi⟩ : ∃ vi, vs[i]? = some vi := ⟨_, List.getElem?_eq_getElem (by rw [v3.1, HN.out]; exact hi)⟩
  rw [hvi] at hcell
  have hge := (World.ownsRow.lt o3 g3 rfl).1
  have HB4 := Lib.hid (b3.setCell (p := ⟨g3, i, none⟩) hge (.slice T m d))
  have HV4 := Lib.hid (v3.set_ i HT1.out)
  clear o3 v3 b3 hvi
  go_wp2
  go_ret
  exact ⟨g3, c3, _, rfl, hst.out, HV4.out, HB4.out⟩

/-- Tables, and a bidder among them. -/
noncomputable def hbB (ts : List (List Int)) (i : Int) : Bool := vtsB ts && inR i 0 ((ts.length : Int) - 1)
set_option maxHeartbeats 400000 in
theorem hasBidder_any (A : Option Addr) (c : Nat) (ts : List (List Int)) (i : Int) (w : World) (h : RdR w A c ts) (hl2 : ∀ r ∈ ts, r.length ≤ 1099511627776) :
    Calls Try.prog 66 #[.slice A ts.length c, .int .i64 i] w fun e w' => e = .returned (.bool (hbB ts i)) ∧ Below w.heap.size w w' := by
  have HC := Lib.hid (areTables_any A c ts w h hl2)
  unfold hbB
  cases hv : vtsB ts with
  | false =>
    rw [hv] at HC
    rw [Bool.false_and]
    clear hv hl2 h
    go_enter Try.func66, Try.ntmps66
    go_wp2_with fail
    refine HC.out.mono ?_
    rintro e w1 ⟨rfl, b1⟩
    go_wp2
    go_ret
    exact ⟨rfl, b1⟩
  | true =>
    rw [hv] at HC
    rw [Bool.true_and]
    clear hv hl2 h
    by_cases hi : 0 ≤ i
    · by_cases hi2 : i < (ts.length : Int)
      · have hr : inR i 0 ((ts.length : Int) - 1) = true := inR_true.2 (by omega)
        rw [hr]
        clear hr
        go_enter Try.func66, Try.ntmps66
        go_wp2_with fail
        refine HC.out.mono ?_
        rintro e w1 ⟨rfl, b1⟩
        go_wp2
        go_ret
        exact ⟨rfl, b1⟩
      · have hr : inR i 0 ((ts.length : Int) - 1) = false := inR_false.2 (by omega)
        have hd : decide (i < (ts.length : Int)) = false := by simpa using hi2
        rw [hr]
        clear hr hi2
        go_enter Try.func66, Try.ntmps66
        go_wp2_with fail
        refine HC.out.mono ?_
        rintro e w1 ⟨rfl, b1⟩
        go_wp2
        go_ret
        exact ⟨rfl, b1⟩
    · have hr : inR i 0 ((ts.length : Int) - 1) = false := inR_false.2 (by omega)
      rw [hr]
      clear hr
      go_enter Try.func66, Try.ntmps66
      go_wp2_with fail
      refine HC.out.mono ?_
      rintro e w1 ⟨rfl, b1⟩
      go_wp2
      go_ret
      exact ⟨rfl, b1⟩

/-- What some bidders have by a way, and what they pay. -/
def hasOf (os : List Int) (ns : List Nat) : Nat := ns.foldl (fun a i => a ||| setOf os i) 0
noncomputable def paidOf (ts : List (List Int)) (ns : List Nat) : Int := ns.foldl (fun a i => a + pvF ts i) 0
theorem hasOf_snoc (os : List Int) (ns : List Nat) (i : Nat) : hasOf os (ns ++ [i]) = hasOf os ns ||| setOf os i := by simp [hasOf]
theorem paidOf_snoc (ts : List (List Int)) (ns : List Nat) (i : Nat) : paidOf ts (ns ++ [i]) = paidOf ts ns + pvF ts i := by simp [paidOf]
theorem hasOf_lt (os : List Int) : ∀ (n : Nat) (ns : List Nat), ns.length = n → hasOf os ns < 8
  | 0, ns, h => by obtain rfl := List.eq_nil_of_length_eq_zero h; simp [hasOf]
  | n + 1, ns, h => by
    obtain ⟨ms, i, rfl⟩ : ∃ ms i, ns = ms ++ [i] := ⟨ns.dropLast, ns.getLast (by intro e; rw [e] at h; simp at h), (List.dropLast_concat_getLast _).symm⟩
    rw [hasOf_snoc]
    have h1 := hasOf_lt os n ms (by simpa using h)
    have h2 := setOf_lt os i
    exact Nat.or_lt_two_pow (n := 3) h1 h2
theorem paidOf_bd {ts : List (List Int)} (hv : VTs ts) : ∀ (n : Nat) (ns : List Nat), ns.length = n → (∀ i ∈ ns, i < ts.length) → 0 ≤ paidOf ts ns ∧ paidOf ts ns ≤ 30 * n
  | 0, ns, h, _ => by obtain rfl := List.eq_nil_of_length_eq_zero h; simp [paidOf]
  | n + 1, ns, h, hi => by
    obtain ⟨ms, i, rfl⟩ : ∃ ms i, ns = ms ++ [i] := ⟨ns.dropLast, ns.getLast (by intro e; rw [e] at h; simp at h), (List.dropLast_concat_getLast _).symm⟩
    rw [paidOf_snoc]
    have h1 := paidOf_bd hv n ms (by simpa using h) (fun j hj => hi j (by simp [hj]))
    have h2 := pv_bd hv.2 hv.1.2 (i := i) (hi i (by simp))
    omega


set_option maxHeartbeats 1000000 in
theorem gainUnder_any (A B N : Option Addr) (ca cb cn n r : Nat) (t : List Int) (ts : List (List Int)) (ns : List Nat) (w : World) (hn : ts.length = n) (hr : ns.length = r) (hA : Rd w A ca t) (hB : RdR w B cb ts) (hN : Rd w N cn (ns.map (fun i : Nat => (i : Int)))) (ht : VT t) (hv : VTs ts) (hi : ∀ i ∈ ns, i < n) (hr2 : r ≤ 4) :
    Calls Try.prog 68 #[.slice A 8 ca, .slice B n cb, .slice N r cn] w fun e w' => e = .returned (.int .i64 (T t (hasOf (wayF ts) ns) - paidOf ts ns)) ∧ Below w.heap.size w w' := by
  have hl2 : ∀ r ∈ ts, r.length ≤ 1099511627776 := fun r hr => by have := (hv.2 r hr).1; omega
  have HBS := Lib.hid (fun (W : World) (hW : Below w.heap.size w W) => BestSplit_yes B cb n ts W hn (hB.below hW) hl2 hv)
  have HP := Lib.hid (fun (W : World) (hW : Below w.heap.size w W) => PivotPays_yes B cb n ts W hn (hB.below hW) hl2 hv)
  have h1l : 1 ≤ n := by rw [← hn]; exact hv.1.1
  have HV := Lib.hid hv
  have HH := Lib.hid hn
  have HR := Lib.hid hr
  have HI := Lib.hid hi
  have HT := Lib.hid ht
  have HT8 := ht.1
  obtain ⟨b, off, rfl⟩ := hA.some_ ht.1
  clear hv hn hi ht hr hl2 hB
  go_enter Try.func68, Try.ntmps68
  go_wp2_with fail
  refine (HBS.out w (Below.refl _ _)).mono ?_
  rintro e w2 ⟨A2, c2, xs, M, rfl, o2, b2, ⟨_, hxs, hM⟩ | ⟨hno, _⟩⟩
  · have hxl : xs.length = n := by rw [hxs, setsF_len', HH.out]
    rw [hxl]
    obtain ⟨g2, rfl⟩ := own_some o2 (by omega)
    have HX := Lib.hid hxs
    clear hxs hM
    go_wp2_with fail
    refine (HP.out w2 b2).mono ?_
    rintro e w3 ⟨g3, c3, rfl, o3, b3⟩
    have B3 := b2.trans (b3.mono b2.size)
    have HS3 : Hid (Own w3 w.heap.size (some ⟨g2, 0, none⟩) c2 (setsF (wayF ts) n)) := Lib.hid (by rw [← HH.out, ← HX.out]; exact o2.below b3)
    have HP3 := Lib.hid o3
    have hN3 := hN.below B3
    have hA3 := hA.below B3
    have HN3 := Lib.hid hN3
    have HA3 := Lib.hid hA3
    clear o2 o3 b3 hxl hA hN hN3 hA3 HBS HP
    go_wp2_with fail
    go_loopw [10, 11, 23] (fun h p i wr => ∃ (j s : Nat) (z : Int), j ≤ r ∧ i = .int .i64 j ∧ h = .int .i64 (s : Int) ∧ p = .int .i64 z ∧ Hid (s = hasOf (wayF ts) (ns.take j)) ∧ Hid (z = paidOf ts (ns.take j)) ∧ wr = w3) (fun _ _ i _ => r - (intOf i).toNat)
    case atStart => exact ⟨0, 0, 0, Nat.zero_le _, rfl, rfl, rfl, Lib.hid (by simp [hasOf]), Lib.hid (by simp [paidOf]), rfl⟩
    case round =>
      obtain ⟨j, s, z, hj, rfl, rfl, rfl, HSJ, HZJ, rfl⟩ := hrel
      have hlj : (ns.take j).length = j := by rw [List.length_take, HR.out]; omega
      have hs8 : s < 8 := by rw [HSJ.out]; exact hasOf_lt _ j _ hlj
      have hzb := paidOf_bd HV.out j (ns.take j) hlj (fun i hi => by rw [HH.out]; exact HI.out i (List.mem_of_mem_take hi))
      rw [← HZJ.out] at hzb
      have hz0 := hzb.1
      have hz1 := hzb.2
      clear hlj hzb
      by_cases hlt : j < r
      · obtain ⟨b3, off3, x, rfl, _, hx, hcx⟩ := HN3.out.at_ (k := j) (by rw [List.length_map, HR.out]; exact hlt)
        have hnj : ns[j]? = some (ns.getD j 0) := by rw [List.getD_eq_getElem?_getD, List.getElem?_eq_getElem (by rw [HR.out]; exact hlt)]; rfl
        obtain ⟨q, hq⟩ : ∃ q, q = ns.getD j 0 := ⟨_, rfl⟩
        rw [← hq] at hnj
        have hxq : x = (q : Int) := by
          have h1 := hx.out
          rw [List.getElem?_map, hnj] at h1
          simpa using h1.symm
        subst hxq
        have hqn : q < n := HI.out q (List.mem_of_getElem? hnj)
        have htk : ns.take (j + 1) = ns.take j ++ [q] := by rw [List.take_add_one, hnj]; rfl
        have hc2 := HS3.out.cell (show (setsF (wayF ts) n)[q]? = some ((setOf (wayF ts) q : Nat) : Int) from setsF_at _ hqn)
        have hc3 := HP3.out.cell (vls_at (f := pvF ts) hqn)
        have hpb := pv_bd HV.out.2 HV.out.1.2 (i := q) (by rw [HH.out]; exact hqn)
        have HS2 : Hid (s ||| setOf (wayF ts) q = hasOf (wayF ts) (ns.take (j + 1))) := Lib.hid (by rw [htk, hasOf_snoc, ← HSJ.out])
        have HZ2 : Hid (z + pvF ts q = paidOf ts (ns.take (j + 1))) := Lib.hid (by rw [htk, paidOf_snoc, ← HZJ.out])
        have hu8 := setOf_lt (wayF ts) q
        obtain ⟨u, hu⟩ : ∃ u, u = setOf (wayF ts) q := ⟨_, rfl⟩
        obtain ⟨y, hy⟩ : ∃ y, y = pvF ts q := ⟨_, rfl⟩
        rw [← hu] at hc2 HS2 hu8
        rw [← hy] at hc3 HZ2 hpb
        have hor := or_nat hs8 hu8
        have hy0 := hpb.1
        have hy1 := hpb.2
        have e1 : IntKind.i64.wrap (z + y) = z + y := IntWalk.i64_in _ (by omega)
        clear hx hq hnj htk hu hy hpb
        go_wp2
        go_roundw
        case rel => exact ⟨j + 1, _, _, by omega, by go_num, rfl, rfl, HS2, HZ2, trivial⟩
        case measure => simp [intOf]; omega
      · obtain rfl : j = r := by omega
        have htk : ns.take j = ns := List.take_of_length_le (by rw [HR.out]; exact Nat.le_refl _)
        obtain ⟨b4, off4, x, hA4, _, hx, hcx⟩ := HA3.out.at_ (k := s) (by rw [HT8]; exact hs8)
        cases hA4
        have hxe := T_of hx.out
        have hxb := HT.out.bd hs8
        rw [hxe] at hxb
        have hx0 := hxb.1
        have hx1 := hxb.2
        have e1 : IntKind.i64.wrap (x - z) = x - z := IntWalk.i64_in _ (by omega)
        have HE : Hid (T t (hasOf (wayF ts) ns) - paidOf ts ns = x - z) := Lib.hid (by rw [← hxe, HSJ.out, HZJ.out, htk])
        have hs0 : (0 : Int) ≤ (s : Int) := by omega
        have hs7 : (s : Int) < 8 := by omega
        clear hx hxe hxb htk
        go_wp2
        go_ret
        exact ⟨by rw [HE.out]; rfl, B3⟩
  · exact absurd HV.out hno

end Go.Proofs.Ytfjncipekjnbjaa

/-
  Chapter 5: both sides of GainTold.
-/
namespace Go.Proofs.Ytfjncipekjnbjaa
open Go.RowKit

/-- What GainTold and GainAsTwo hand back. -/
def GnIs (w : World) (x : Int) (b : Bool) (e : Ending) (w' : World) : Prop := e = .returned (.tuple #[.int .i64 x, .bool b]) ∧ Below w.heap.size w w'

theorem gt_one (ts : List (List Int)) (i : Nat) (t told : List Int) : T t (hasOf (wayF (ts.set i told)) [i]) - paidOf (ts.set i told) [i] = T t (setOf (wayF (ts.set i told)) i) - pvF (ts.set i told) i := by
  simp [hasOf, paidOf]

set_option maxHeartbeats 1000000 in
theorem GainTold_yes (A U : Option Addr) (c d i : Nat) (ts : List (List Int)) (told : List Int) (w : World) (hR : RdR w A c ts) (hT : Rd w U d told) (hTd : told.length ≤ d) (hl2 : ∀ r ∈ ts, r.length ≤ 1099511627776) (hv : VTs ts) (hi : i < ts.length) (ht : VT told) :
    Calls Try.prog 17 #[.slice A ts.length c, .int .i64 i, .slice U told.length d] w (GnIs w (gtF ts i told) true) := by
  have h1l : 1 ≤ ts.length := hv.1.1
  have h4 : ts.length ≤ 4 := hv.1.2
  have HB := Lib.hid (hasBidder_any A c ts i w hR hl2)
  have hbt : hbB ts i = true := by unfold hbB; rw [vtsB_true hv, Bool.true_and]; exact inR_true.2 (by omega)
  rw [hbt] at HB
  have HVT := Lib.hid (fun (W : World) (hW : Below w.heap.size w W) => ValidTable_any U d told W (hT.below hW) (by have := ht.1; omega))
  rw [vt_true ht] at HVT
  obtain ⟨b, off, rfl, hcapR, hrows⟩ := hR.open_ h1l
  have HSB := Lib.hid (fun (W : World) (hW : Below w.heap.size w W) => saidBy_any b off c i ts.length d told.length U ts told W rfl rfl (hR.below hW) (hT.below hW) hTd hi (by omega))
  obtain ⟨A0, c0, hc0, hcap0, hrd0⟩ := hrows i _ (List.getElem?_eq_getElem hi)
  obtain ⟨r, hr⟩ : ∃ r, r = ts[i] := ⟨_, rfl⟩
  rw [← hr] at hc0 hcap0 hrd0
  have hgd : ts.getD i [] = r := by rw [List.getD_eq_getElem?_getD, List.getElem?_eq_getElem hi, hr]; rfl
  have hrt : VT r := by rw [hr]; exact hv.2 _ (List.getElem_mem hi)
  obtain ⟨b0, off0, rfl⟩ := hrd0.some_ hrt.1
  rw [hrt.1] at hc0
  have HGU := Lib.hid (fun (W : World) (hW : Below w.heap.size w W) (g5 c5 gN : Nat) (hs : RdR W (some ⟨g5, 0, none⟩) c5 (ts.set i told)) (hN : Rd W (some ⟨gN, 0, none⟩) 1 [(i : Int)]) =>
    gainUnder_any (some ⟨b0, off0, none⟩) (some ⟨g5, 0, none⟩) (some ⟨gN, 0, none⟩) c0 c5 1 ts.length 1 r (ts.set i told) [i] W (by simp) rfl (hrd0.below hW) hs hN hrt (hv.set_ i ht) (fun j hj => by rw [List.mem_singleton.1 hj]; exact hi) (by omega))
  have HE : Hid (gtF ts i told = T r (hasOf (wayF (ts.set i told)) [i]) - paidOf (ts.set i told) [i]) := Lib.hid (by unfold gtF; rw [hgd, gt_one])
  obtain ⟨G, hG⟩ : ∃ G, G = gtF ts i told := ⟨_, rfl⟩
  rw [← hG] at HE ⊢
  rw [← HE.out] at HGU
  have HSL : Hid ((ts.set i told).length = ts.length) := Lib.hid (by simp)
  have hblk := World.block_lt_of_cell? w _ hc0
  have hi0 : (0 : Int) ≤ (i : Int) := by omega
  have hi1 : (i : Int) < (ts.length : Int) := by omega
  clear hR hT hl2 hv ht hrows hrd0 hr hgd hrt hG hbt hcap0 HE
  go_enter Try.func17, Try.ntmps17
  go_wp2_with fail
  refine HB.out.mono ?_
  rintro e w1 ⟨rfl, b1⟩
  go_wp2_with fail
  refine (HVT.out w1 b1).mono ?_
  rintro e w2 ⟨rfl, b2⟩
  have B2 := b1.trans (b2.mono b1.size)
  have hbd : Below w.heap.size w w2.drew := below_drewN' B2 1
  have HKC := Lib.hid (fun (W : World) (hW : Below w.heap.size w W) => (hW.cell (p := ⟨b, off + i, none⟩) hblk).trans hc0)
  have hK0 := HKC.out _ hbd
  have hB1 := hbd.alloc hbd.size (.cells #[.int .i64 (i : Int)] 3)
  have hK1 := HKC.out _ hB1
  have HN1 := Lib.hid (ints_one w2.drew (i : Int))
  clear hc0 b1 b2
  go_wp2_with fail
  go_region_held3 (fun W => W.cell? ⟨b, off + i, none⟩ = some (.slice (some ⟨b0, off0, none⟩) 8 c0))
    (first | exact hK0 | exact hK1 | exact hK5 | exact hKX | exact hK7 | fail)
    (first
    | (go_at_call 67; refine (HSB.out w2.drew hbd).mono ?_; rintro e w5 ⟨g5, c5, vs5, rfl, o5, v5, b5⟩; have B5 := hbd.trans (b5.mono hbd.size); have hK5 := HKC.out w5 B5; have hal := (Below.refl w5.heap.size w5).alloc (Nat.le_refl _) (.cells #[.int .i64 (i : Int)] 3); have BX := B5.trans (hal.mono B5.size); have hKX := HKC.out _ BX; have HS := Lib.hid ((CopyIs.shape_ o5 v5 HSL.out b5).below hal); have HNN := Lib.hid (ints_one w5 (i : Int)))
    | (go_at_call 67; refine (HSB.out _ hB1).mono ?_; rintro e w5 ⟨g5, c5, vs5, rfl, o5, v5, b5⟩; have BX := hB1.trans (b5.mono hB1.size); have hKX := HKC.out w5 BX; have HS := Lib.hid (CopyIs.shape_ o5 v5 HSL.out b5); have HNN := Lib.hid (HN1.out.below b5))
    | (go_at_call 68; refine (HGU.out _ BX g5 c5 _ HS.out HNN.out).mono ?_; rintro e w7 ⟨rfl, b7⟩; have B7 := BX.trans (b7.mono BX.size); have hK7 := HKC.out _ B7)
    | fail)
  all_goals
    go_wp2
    go_ret2
    exact ⟨rfl, B7⟩

end Go.Proofs.Ytfjncipekjnbjaa

/-
  Chapter 5, the model: GainTold; both sides.
-/
namespace Go.Proofs.Ytfjncipekjnbjaa
open Go.RowKit

/-- S may say more behind a call than ahead of it. -/
theorem wpAnyH_mono {P : Program} {md : Region.Mode} {ops : Array Oper} {Q : Exit → Act → World → Prop} {S S' : World → Prop} (h : ∀ w, S' w → S w) : ∀ (fuel : Nat) (listed : Array Bool) (a : Act) (w : World), wpAnyH P md ops Q S' fuel listed a w → wpAnyH P md ops Q S fuel listed a w
  | 0, _, _, _, hh => hh
  | fuel + 1, _, _, _, hh => ⟨hh.1, fun i hi => wpOp_mono (fun a w hw => ⟨h w hw.1, wpAnyH_mono h fuel _ a w hw.2⟩) (hh.2 i hi)⟩

set_option maxHeartbeats 400000 in
theorem GainTold_no (A U : Option Addr) (c d : Nat) (i : Int) (ts : List (List Int)) (told : List Int) (w : World) (hR : RdR w A c ts) (hT : Rd w U d told) (hl2 : ∀ r ∈ ts, r.length ≤ 1099511627776) (hl3 : told.length ≤ 1099511627776) (hno : (hbB ts i && vt told) = false) :
    Calls Try.prog 17 #[.slice A ts.length c, .int .i64 i, .slice U told.length d] w (GnIs w 0 false) := by
  have HB := Lib.hid (hasBidder_any A c ts i w hR hl2)
  have HVT := Lib.hid (fun (W : World) (hW : Below w.heap.size w W) => ValidTable_any U d told W (hT.below hW) hl3)
  cases hb : hbB ts i with
  | false =>
    rw [hb] at HB
    clear hb hno hR hT hl2 hl3 HVT
    go_enter Try.func17, Try.ntmps17
    go_wp2_with fail
    refine HB.out.mono ?_
    rintro e w1 ⟨rfl, b1⟩
    go_wp2
    go_ret2
    exact ⟨rfl, b1⟩
  | true =>
    rw [hb, Bool.true_and] at hno
    rw [hb] at HB
    rw [hno] at HVT
    clear hb hno hR hT hl2 hl3
    go_enter Try.func17, Try.ntmps17
    go_wp2_with fail
    refine HB.out.mono ?_
    rintro e w1 ⟨rfl, b1⟩
    go_wp2_with fail
    refine (HVT.out w1 b1).mono ?_
    rintro e w2 ⟨rfl, b2⟩
    go_wp2
    go_ret2
    exact ⟨rfl, b1.trans (b2.mono b1.size)⟩

end Go.Proofs.Ytfjncipekjnbjaa

/-
  Chapter 5: both sides of GainTold, at whatever arguments.
-/
namespace Go.Proofs.Ytfjncipekjnbjaa
open Go.RowKit

theorem hb_iff {ts : List (List Int)} {i : Int} : hbB ts i = true ↔ VTs ts ∧ 0 ≤ i ∧ i < (ts.length : Int) := by
  unfold hbB
  rw [Bool.and_eq_true, vtsB_iff, inR_true]
  constructor
  · rintro ⟨h1, h2, h3⟩; exact ⟨h1, h2, by omega⟩
  · rintro ⟨h1, h2, h3⟩; exact ⟨h1, h2, by omega⟩
end Go.Proofs.Ytfjncipekjnbjaa

/-
  Chapter 5, the program: GainAsTwo.
-/
namespace Go.Proofs.Ytfjncipekjnbjaa
open Go.RowKit

/-- The tables that are said under two names. -/
def saidF (ts : List (List Int)) (i : Nat) (a b : List Int) : List (List Int) := ts.set i a ++ [b]
/-- What bidder i has under two names. -/
noncomputable def gwF (ts : List (List Int)) (i : Nat) (a b : List Int) : Int := T (ts.getD i []) (hasOf (wayF (saidF ts i a b)) [i, ts.length]) - paidOf (saidF ts i a b) [i, ts.length]
theorem ints_two (w : World) (x y : Int) : Rd (w.alloc (.cells #[.int .i64 x, .int .i64 y] 3)) (some ⟨w.heap.size, 0, none⟩) 2 [x, y] := (own_lit w [x, y] (by simp)).rd
theorem cell_row_one (w : World) (v : Value) : ∀ j u, [v][j]? = some u → (w.alloc (.cells #[v] 24)).cell? ((⟨w.heap.size, 0, none⟩ : Addr).add j) = some u := cell_one_new _ _ _

set_option maxHeartbeats 1000000 in
theorem GainAsTwo_yes (A U V : Option Addr) (c d f i : Nat) (ts : List (List Int)) (ta tb : List Int) (w : World) (hR : RdR w A c ts) (hT : Rd w U d ta) (hTd : ta.length ≤ d) (hT2 : Rd w V f tb) (hTf : tb.length ≤ f) (hl2 : ∀ r ∈ ts, r.length ≤ 1099511627776) (hv : VTs ts) (hi : i < ts.length) (h3 : ts.length ≤ 3) (ht : VT ta) (ht2 : VT tb) :
    Calls Try.prog 15 #[.slice A ts.length c, .int .i64 i, .slice U ta.length d, .slice V tb.length f] w (GnIs w (gwF ts i ta tb) true) := by
  have h1l : 1 ≤ ts.length := hv.1.1
  have HB := Lib.hid (hasBidder_any A c ts i w hR hl2)
  have hbt : hbB ts i = true := hb_iff.2 ⟨hv, by omega, by omega⟩
  rw [hbt] at HB
  have HVT := Lib.hid (fun (W : World) (hW : Below w.heap.size w W) => ValidTable_any U d ta W (hT.below hW) (by have := ht.1; omega))
  rw [vt_true ht] at HVT
  have HVT2 := Lib.hid (fun (W : World) (hW : Below w.heap.size w W) => ValidTable_any V f tb W (hT2.below hW) (by have := ht2.1; omega))
  rw [vt_true ht2] at HVT2
  obtain ⟨b, off, rfl, hcapR, hrows⟩ := hR.open_ h1l
  have HSB := Lib.hid (fun (W : World) (hW : Below w.heap.size w W) => saidBy_any b off c i ts.length d ta.length U ts ta W rfl rfl (hR.below hW) (hT.below hW) hTd hi (by omega))
  obtain ⟨A0, c0, hc0, hcap0, hrd0⟩ := hrows i _ (List.getElem?_eq_getElem hi)
  obtain ⟨r, hr⟩ : ∃ r, r = ts[i] := ⟨_, rfl⟩
  rw [← hr] at hc0 hcap0 hrd0
  have hgd : ts.getD i [] = r := by rw [List.getD_eq_getElem?_getD, List.getElem?_eq_getElem hi, hr]; rfl
  have hrt : VT r := by rw [hr]; exact hv.2 _ (List.getElem_mem hi)
  obtain ⟨b0, off0, rfl⟩ := hrd0.some_ hrt.1
  rw [hrt.1] at hc0
  have hsl : (saidF ts i ta tb).length = ts.length + 1 := by simp [saidF]
  have hsv : VTs (saidF ts i ta tb) := (hv.set_ i ht).snoc (by simpa using h3) ht2
  have HGU := Lib.hid (fun (W : World) (hW : Below w.heap.size w W) (g5 c5 gN : Nat) (hs : RdR W (some ⟨g5, 0, none⟩) c5 (saidF ts i ta tb)) (hN : Rd W (some ⟨gN, 0, none⟩) 2 [(i : Int), (ts.length : Int)]) =>
    gainUnder_any (some ⟨b0, off0, none⟩) (some ⟨g5, 0, none⟩) (some ⟨gN, 0, none⟩) c0 c5 2 (ts.length + 1) 2 r (saidF ts i ta tb) [i, ts.length] W hsl rfl (hrd0.below hW) hs hN hrt hsv (fun j hj => by
      simp only [List.mem_cons, List.not_mem_nil, or_false] at hj; omega) (by omega))
  have HE : Hid (gwF ts i ta tb = T r (hasOf (wayF (saidF ts i ta tb)) [i, ts.length]) - paidOf (saidF ts i ta tb) [i, ts.length]) := Lib.hid (by unfold gwF; rw [hgd])
  obtain ⟨G, hG⟩ : ∃ G, G = gwF ts i ta tb := ⟨_, rfl⟩
  rw [← hG] at HE ⊢
  rw [← HE.out] at HGU
  have HSL : Hid ((ts.set i ta).length = ts.length) := Lib.hid (by simp)
  have HSZ := Lib.hid hsl
  have HR1 : Hid (Row1 w (.slice V tb.length f) tb) := Lib.hid ⟨V, f, rfl, hTf, hT2⟩
  have hblk := World.block_lt_of_cell? w _ hc0
  have HKC := Lib.hid (fun (W : World) (hW : Below w.heap.size w W) => (hW.cell (p := ⟨b, off + i, none⟩) hblk).trans hc0)
  have hi0 : (0 : Int) ≤ (i : Int) := by omega
  have hi1 : (i : Int) < (ts.length : Int) := by omega
  have h4n : decide ((4 : Int) ≤ (ts.length : Int)) = false := by simp; omega
  clear hR hT hT2 hl2 hv ht ht2 hrows hrd0 hr hgd hrt hG hbt hcap0 HE hsl hsv hTd hTf hc0
  go_enter Try.func15, Try.ntmps15
  go_wp2_with fail
  refine HB.out.mono ?_
  rintro e w1 ⟨rfl, b1⟩
  go_wp2_with fail
  refine (HVT.out w1 b1).mono ?_
  rintro e w2 ⟨rfl, b2⟩
  have B2 := b1.trans (b2.mono b1.size)
  go_wp2_with fail
  refine (HVT2.out w2 B2).mono ?_
  rintro e w3 ⟨rfl, b3⟩
  have B3 := B2.trans (b3.mono B2.size)
  clear b1 b2 b3 B2 HVT HVT2 HB
  go_wp2_with fail
  refine (HSB.out w3 B3).mono ?_
  rintro e w4 ⟨g4, c4, vs4, rfl, o4, v4, b4⟩
  have B4 := B3.trans (b4.mono B3.size)
  have b4s := Lib.hid b4.size
  have HR3 := Lib.hid (v4.1)
  have hal := (Below.refl w4.heap.size w4).alloc (Nat.le_refl _) (.cells #[.slice V tb.length f] 24)
  have BL := B4.trans (hal.mono B4.size)
  have BL3 := Lib.hid (b4.trans (hal.mono b4.size))
  have o5 := own_len o4 hal
  have HV4 := Lib.hid (v4.more1 (HR1.out.below B3) : RowsV w3 (vs4 ++ [.slice V tb.length f]) (saidF ts i ta tb))
  clear o4 v4 b4
  have hg3 : w3.heap.size ≤ g4 := (World.ownsRow.lt o5 g4 rfl).1
  have hg0 := Nat.le_trans B3.size hg3
  have HGB := Lib.hid (fun (W : World) (hg : (w4.alloc (.cells #[.slice V tb.length f] 24)).grownBy W (some g4)) => (⟨BL.grown hg BL.size (fun k e => by cases e; exact hg0), BL3.out.grown hg BL3.out.size (fun k e => by cases e; exact hg3)⟩ : Below w.heap.size w W ∧ Below w3.heap.size w3 W))
  have HRR := Lib.hid (fun (W : World) (g5 c5 : Nat) (hb : Below w3.heap.size w3 W) (ho : W.ownsRow w3.heap.size 24 1 (.slice (some ⟨g5, 0, none⟩) (ts.length + 1) c5) (ts.length + 1) (vs4 ++ [.slice V tb.length f])) => (rdr_of_own (B := w3.heap.size) (w0 := w3) (rows := saidF ts i ta tb) (by rw [HSZ.out]; exact ho) HV4.out hb : RdR W (some ⟨g5, 0, none⟩) c5 (saidF ts i ta tb)))
  have hbs : w3.heap.size ≤ (w4.alloc (.cells #[.slice V tb.length f] 24)).heap.size := BL3.out.size
  go_wp2_with (at_builtin; refine wpList_append_rows rfl _ _ rfl w3.heap.size g4 c4 ts.length vs4 rfl o5 ⟨w4.heap.size, 0, none⟩ 1 1 [.slice V tb.length f] rfl rfl (cell_row_one w4 _) (by simp [Value.oneCell']) (ts.length + 1) rfl (by omega) hbs ?_; intro g5 c5 w5 o6 g6; obtain ⟨B5, B35⟩ := HGB.out w5 g6; have hK5 := HKC.out w5 B5; have HR5 := Lib.hid (HRR.out w5 g5 c5 B35 o6))
  have HN := Lib.hid (ints_two w5 (i : Int) (ts.length : Int))
  have hal5 := (Below.refl w5.heap.size w5).alloc (Nat.le_refl _) (.cells #[.int .i64 (i : Int), .int .i64 (ts.length : Int)] 3)
  have BX := B5.trans (hal5.mono B5.size)
  go_wp2_with fail
  refine (HGU.out _ BX g5 c5 _ (HR5.out.below hal5) HN.out).mono ?_
  rintro e w7 ⟨rfl, b7⟩
  have B7 := Lib.hid (BX.trans (b7.mono BX.size))
  go_wp2
  go_ret2
  exact ⟨rfl, B7.out⟩

end Go.Proofs.Ytfjncipekjnbjaa
