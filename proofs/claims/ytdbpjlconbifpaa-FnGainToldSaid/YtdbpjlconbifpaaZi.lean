/-
  Chapter 5: other tables told: the model's withTable; the program's saidBy, hasBidder, gainUnder.
-/
import Derived.Test.YtdbpjlconbifpaaGY
namespace Go.Proofs.Ytdbpjlconbifpaa
open Go.RowKit

theorem VTs.set_ {ts : List (List Int)} (h : VTs ts) (i : Nat) {t : List Int} (ht : VT t) : VTs (ts.set i t) := ⟨by simpa using h.1, fun q hq => by
  rcases List.mem_or_eq_of_mem_set hq with hq | hq
  · exact h.2 q hq
  · rw [hq]; exact ht⟩
theorem VTs.snoc {ts : List (List Int)} (h : VTs ts) (hl : ts.length ≤ 3) {t : List Int} (ht : VT t) : VTs (ts ++ [t]) := ⟨by simp; omega, fun q hq => by
  rcases List.mem_append.1 hq with hq | hq
  · exact h.2 q hq
  · rw [List.mem_singleton.1 hq]; exact ht⟩
theorem CopyIs.rdr {w w' : World} {rows : List (List Int)} {n g c : Nat} {vs : List Value} (ho : w'.ownsRow w.heap.size 27 1 (.slice (some ⟨g, 0, none⟩) n c) n vs) (hv : RowsV w vs rows) (hn : rows.length = n) (hb : Below w.heap.size w w') : RdR w' (some ⟨g, 0, none⟩) c rows := CopyIs.shape_ ho hv hn hb

set_option maxHeartbeats 400000 in
theorem SwithTable_any (b off c i n d m : Nat) (T : Option Addr) (ts : List (List Int)) (told : List Int) (w : World) (hn : ts.length = n) (hm : told.length = m) (hR : RdR w (some ⟨b, off, none⟩) c ts) (hT : Rd w T d told) (hTd : told.length ≤ d) (hi : i < n) (hl : n ≤ 1000) :
    Calls Try.prog 57 #[.slice (some ⟨b, off, none⟩) n c, .int .i64 i, .slice T m d] w (CopyIs w (ts.set i told) n) := by
  have hb0 := (Below.refl w.heap.size w).alloc (Nat.le_refl _) (.cells #[] 27)
  have HR := Lib.hid hR
  have ho := row_empty w
  have h1l : 1 ≤ n := by omega
  have HN := Lib.hid hn
  have HT1 : Hid (Row1 w (.slice T m d) told) := Lib.hid ⟨T, d, by rw [hm], hTd, hT⟩
  clear hR hT hn hTd hm
  go_enter Try.func57, Try.ntmps57
  go_wp2_with (at_builtin; refine wpList_copy_rows rfl _ _ rfl w.heap.size w.heap.size rfl ho w b off c n ts HN.out rfl HR.out hb0 (by omega) h1l hb0.size ?_; intro g2 c2 vs w2 o2 v2 g2'; have B2 : Below w.heap.size w w2 := hb0.grown g2' hb0.size (fun k e => by cases e; exact Nat.le_refl _); have hcell := World.ownsRow.cellAt o2 i (by omega); have hfr := World.ownsRow.frozenAt o2 i; have hst := Lib.hid (World.ownsRow.stored o2 i (.slice T m d)).1; obtain ⟨vi, hvi⟩ : ∃ vi, vs[i]? = some vi := ⟨_, List.getElem?_eq_getElem (by rw [v2.1, HN.out]; exact hi)⟩; rw [hvi] at hcell; have HV := Lib.hid v2; have hge := (World.ownsRow.lt o2 g2 rfl).1; have HBS := Lib.hid (B2.setCell (p := ⟨g2, i, none⟩) hge (.slice T m d)); clear o2 v2 g2' B2 hvi)
  go_ret
  exact ⟨g2, c2, _, rfl, hst.out, HV.out.set_ i HT1.out, HBS.out⟩

set_option maxHeartbeats 400000 in
theorem saidBy_any (b off c i n d m : Nat) (T : Option Addr) (ts : List (List Int)) (told : List Int) (w : World) (hn : ts.length = n) (hm : told.length = m) (hR : RdR w (some ⟨b, off, none⟩) c ts) (hT : Rd w T d told) (hTd : told.length ≤ d) (hi : i < n) (hl : n ≤ 1000) :
    Calls Try.prog 55 #[.slice (some ⟨b, off, none⟩) n c, .int .i64 i, .slice T m d] w (CopyIs w (ts.set i told) n) := by
  have HC := Lib.hid (CloneRows_any b off c n ts w hn hR hl (by omega))
  have HN := Lib.hid hn
  have HT1 : Hid (Row1 w (.slice T m d) told) := Lib.hid ⟨T, d, by rw [hm], hTd, hT⟩
  clear hR hT hn hTd hm
  go_enter Try.func55, Try.ntmps55
  go_wp2_with fail
  refine HC.out.mono ?_
  rintro e w3 ⟨g3, c3, vs, rfl, o3, v3, b3⟩
  have hcell := World.ownsRow.cellAt o3 i (by omega)
  have hfr := World.ownsRow.frozenAt o3 i
  have hst := Lib.hid (World.ownsRow.stored o3 i (.slice T m d)).1
  obtain ⟨vi, hvi⟩ : ∃ vi, vs[i]? = some vi := ⟨_, List.getElem?_eq_getElem (by rw [v3.1, HN.out]; exact hi)⟩
  rw [hvi] at hcell
  have hge := (World.ownsRow.lt o3 g3 rfl).1
  have HB4 := Lib.hid (b3.setCell (p := ⟨g3, i, none⟩) hge (.slice T m d))
  have HV4 := Lib.hid (v3.set_ i HT1.out)
  clear o3 v3 b3 hvi
  go_wp2
  go_ret
  exact ⟨g3, c3, _, rfl, hst.out, HV4.out, HB4.out⟩

/-- Tables, and a bidder among them. -/
noncomputable def hbB (ts : List (List Int)) (i : Int) : Bool := vtsB ts && inR i 0 ((ts.length : Int) - 1)
set_option maxHeartbeats 400000 in
theorem hasBidder_any (A : Option Addr) (c : Nat) (ts : List (List Int)) (i : Int) (w : World) (h : RdR w A c ts) (hl2 : ∀ r ∈ ts, r.length ≤ 1099511627776) :
    Calls Try.prog 52 #[.slice A ts.length c, .int .i64 i] w fun e w' => e = .returned (.bool (hbB ts i)) ∧ Below w.heap.size w w' := by
  have HC := Lib.hid (areTables_any A c ts w h hl2)
  unfold hbB
  cases hv : vtsB ts with
  | false =>
    rw [hv] at HC
    rw [Bool.false_and]
    clear hv hl2 h
    go_enter Try.func52, Try.ntmps52
    go_wp2_with fail
    refine HC.out.mono ?_
    rintro e w1 ⟨rfl, b1⟩
    go_wp2
    go_ret
    exact ⟨rfl, b1⟩
  | true =>
    rw [hv] at HC
    rw [Bool.true_and]
    clear hv hl2 h
    by_cases hi : 0 ≤ i
    · by_cases hi2 : i < (ts.length : Int)
      · have hr : inR i 0 ((ts.length : Int) - 1) = true := inR_true.2 (by omega)
        rw [hr]
        clear hr
        go_enter Try.func52, Try.ntmps52
        go_wp2_with fail
        refine HC.out.mono ?_
        rintro e w1 ⟨rfl, b1⟩
        go_wp2
        go_ret
        exact ⟨rfl, b1⟩
      · have hr : inR i 0 ((ts.length : Int) - 1) = false := inR_false.2 (by omega)
        have hd : decide (i < (ts.length : Int)) = false := by simpa using hi2
        rw [hr]
        clear hr hi2
        go_enter Try.func52, Try.ntmps52
        go_wp2_with fail
        refine HC.out.mono ?_
        rintro e w1 ⟨rfl, b1⟩
        go_wp2
        go_ret
        exact ⟨rfl, b1⟩
    · have hr : inR i 0 ((ts.length : Int) - 1) = false := inR_false.2 (by omega)
      rw [hr]
      clear hr
      go_enter Try.func52, Try.ntmps52
      go_wp2_with fail
      refine HC.out.mono ?_
      rintro e w1 ⟨rfl, b1⟩
      go_wp2
      go_ret
      exact ⟨rfl, b1⟩

/-- What some bidders have by a way, and what they pay. -/
def hasOf (os : List Int) (ns : List Nat) : Nat := ns.foldl (fun a i => a ||| setOf os i) 0
noncomputable def paidOf (ts : List (List Int)) (ns : List Nat) : Int := ns.foldl (fun a i => a + pvF ts i) 0
theorem hasOf_snoc (os : List Int) (ns : List Nat) (i : Nat) : hasOf os (ns ++ [i]) = hasOf os ns ||| setOf os i := by simp [hasOf]
theorem paidOf_snoc (ts : List (List Int)) (ns : List Nat) (i : Nat) : paidOf ts (ns ++ [i]) = paidOf ts ns + pvF ts i := by simp [paidOf]
theorem hasOf_lt (os : List Int) : ∀ (n : Nat) (ns : List Nat), ns.length = n → hasOf os ns < 8
  | 0, ns, h => by obtain rfl := List.eq_nil_of_length_eq_zero h; simp [hasOf]
  | n + 1, ns, h => by
    obtain ⟨ms, i, rfl⟩ : ∃ ms i, ns = ms ++ [i] := ⟨ns.dropLast, ns.getLast (by intro e; rw [e] at h; simp at h), (List.dropLast_concat_getLast _).symm⟩
    rw [hasOf_snoc]
    have h1 := hasOf_lt os n ms (by simpa using h)
    have h2 := setOf_lt os i
    exact Nat.or_lt_two_pow (n := 3) h1 h2
theorem paidOf_bd {ts : List (List Int)} (hv : VTs ts) : ∀ (n : Nat) (ns : List Nat), ns.length = n → (∀ i ∈ ns, i < ts.length) → 0 ≤ paidOf ts ns ∧ paidOf ts ns ≤ 30 * n
  | 0, ns, h, _ => by obtain rfl := List.eq_nil_of_length_eq_zero h; simp [paidOf]
  | n + 1, ns, h, hi => by
    obtain ⟨ms, i, rfl⟩ : ∃ ms i, ns = ms ++ [i] := ⟨ns.dropLast, ns.getLast (by intro e; rw [e] at h; simp at h), (List.dropLast_concat_getLast _).symm⟩
    rw [paidOf_snoc]
    have h1 := paidOf_bd hv n ms (by simpa using h) (fun j hj => hi j (by simp [hj]))
    have h2 := pv_bd hv.2 hv.1.2 (i := i) (hi i (by simp))
    omega


set_option maxHeartbeats 1000000 in
theorem gainUnder_any (A B N : Option Addr) (ca cb cn n r : Nat) (t : List Int) (ts : List (List Int)) (ns : List Nat) (w : World) (hn : ts.length = n) (hr : ns.length = r) (hA : Rd w A ca t) (hB : RdR w B cb ts) (hN : Rd w N cn (ns.map (fun i : Nat => (i : Int)))) (ht : VT t) (hv : VTs ts) (hi : ∀ i ∈ ns, i < n) (hr2 : r ≤ 4) :
    Calls Try.prog 54 #[.slice A 8 ca, .slice B n cb, .slice N r cn] w fun e w' => e = .returned (.int .i64 (T t (hasOf (wayF ts) ns) - paidOf ts ns)) ∧ Below w.heap.size w w' := by
  have hl2 : ∀ r ∈ ts, r.length ≤ 1099511627776 := fun r hr => by have := (hv.2 r hr).1; omega
  have HBS := Lib.hid (fun (W : World) (hW : Below w.heap.size w W) => BestSplit_yes B cb n ts W hn (hB.below hW) hl2 hv)
  have HP := Lib.hid (fun (W : World) (hW : Below w.heap.size w W) => PivotPays_yes B cb n ts W hn (hB.below hW) hl2 hv)
  have h1l : 1 ≤ n := by rw [← hn]; exact hv.1.1
  have HV := Lib.hid hv
  have HH := Lib.hid hn
  have HR := Lib.hid hr
  have HI := Lib.hid hi
  have HT := Lib.hid ht
  have HT8 := ht.1
  obtain ⟨b, off, rfl⟩ := hA.some_ ht.1
  clear hv hn hi ht hr hl2 hB
  go_enter Try.func54, Try.ntmps54
  go_wp2_with fail
  refine (HBS.out w (Below.refl _ _)).mono ?_
  rintro e w2 ⟨A2, c2, xs, M, rfl, o2, b2, ⟨_, hxs, hM⟩ | ⟨hno, _⟩⟩
  · have hxl : xs.length = n := by rw [hxs, setsF_len', HH.out]
    rw [hxl]
    obtain ⟨g2, rfl⟩ := own_some o2 (by omega)
    have HX := Lib.hid hxs
    clear hxs hM
    go_wp2_with fail
    refine (HP.out w2 b2).mono ?_
    rintro e w3 ⟨g3, c3, rfl, o3, b3⟩
    have B3 := b2.trans (b3.mono b2.size)
    have HS3 : Hid (Own w3 w.heap.size (some ⟨g2, 0, none⟩) c2 (setsF (wayF ts) n)) := Lib.hid (by rw [← HH.out, ← HX.out]; exact o2.below b3)
    have HP3 := Lib.hid o3
    have hN3 := hN.below B3
    have hA3 := hA.below B3
    have HN3 := Lib.hid hN3
    have HA3 := Lib.hid hA3
    clear o2 o3 b3 hxl hA hN hN3 hA3 HBS HP
    go_wp2_with fail
    go_loopw [10, 11, 23] (fun h p i wr => ∃ (j s : Nat) (z : Int), j ≤ r ∧ i = .int .i64 j ∧ h = .int .i64 (s : Int) ∧ p = .int .i64 z ∧ Hid (s = hasOf (wayF ts) (ns.take j)) ∧ Hid (z = paidOf ts (ns.take j)) ∧ wr = w3) (fun _ _ i _ => r - (intOf i).toNat)
    case atStart => exact ⟨0, 0, 0, Nat.zero_le _, rfl, rfl, rfl, Lib.hid (by simp [hasOf]), Lib.hid (by simp [paidOf]), rfl⟩
    case round =>
      obtain ⟨j, s, z, hj, rfl, rfl, rfl, HSJ, HZJ, rfl⟩ := hrel
      have hlj : (ns.take j).length = j := by rw [List.length_take, HR.out]; omega
      have hs8 : s < 8 := by rw [HSJ.out]; exact hasOf_lt _ j _ hlj
      have hzb := paidOf_bd HV.out j (ns.take j) hlj (fun i hi => by rw [HH.out]; exact HI.out i (List.mem_of_mem_take hi))
      rw [← HZJ.out] at hzb
      have hz0 := hzb.1
      have hz1 := hzb.2
      clear hlj hzb
      by_cases hlt : j < r
      · obtain ⟨b3, off3, x, rfl, _, hx, hcx⟩ := HN3.out.at_ (k := j) (by rw [List.length_map, HR.out]; exact hlt)
        have hnj : ns[j]? = some (ns.getD j 0) := by rw [List.getD_eq_getElem?_getD, List.getElem?_eq_getElem (by rw [HR.out]; exact hlt)]; rfl
        obtain ⟨q, hq⟩ : ∃ q, q = ns.getD j 0 := ⟨_, rfl⟩
        rw [← hq] at hnj
        have hxq : x = (q : Int) := by
          have h1 := hx.out
          rw [List.getElem?_map, hnj] at h1
          simpa using h1.symm
        subst hxq
        have hqn : q < n := HI.out q (List.mem_of_getElem? hnj)
        have htk : ns.take (j + 1) = ns.take j ++ [q] := by rw [List.take_add_one, hnj]; rfl
        have hc2 := HS3.out.cell (show (setsF (wayF ts) n)[q]? = some ((setOf (wayF ts) q : Nat) : Int) from setsF_at _ hqn)
        have hc3 := HP3.out.cell (vls_at (f := pvF ts) hqn)
        have hpb := pv_bd HV.out.2 HV.out.1.2 (i := q) (by rw [HH.out]; exact hqn)
        have HS2 : Hid (s ||| setOf (wayF ts) q = hasOf (wayF ts) (ns.take (j + 1))) := Lib.hid (by rw [htk, hasOf_snoc, ← HSJ.out])
        have HZ2 : Hid (z + pvF ts q = paidOf ts (ns.take (j + 1))) := Lib.hid (by rw [htk, paidOf_snoc, ← HZJ.out])
        have hu8 := setOf_lt (wayF ts) q
        obtain ⟨u, hu⟩ : ∃ u, u = setOf (wayF ts) q := ⟨_, rfl⟩
        obtain ⟨y, hy⟩ : ∃ y, y = pvF ts q := ⟨_, rfl⟩
        rw [← hu] at hc2 HS2 hu8
        rw [← hy] at hc3 HZ2 hpb
        have hor := or_nat hs8 hu8
        have hy0 := hpb.1
        have hy1 := hpb.2
        have e1 : IntKind.i64.wrap (z + y) = z + y := IntWalk.i64_in _ (by omega)
        clear hx hq hnj htk hu hy hpb
        go_wp2
        go_roundw
        case rel => exact ⟨j + 1, _, _, by omega, by go_num, rfl, rfl, HS2, HZ2, trivial⟩
        case measure => simp [intOf]; omega
      · obtain rfl : j = r := by omega
        have htk : ns.take j = ns := List.take_of_length_le (by rw [HR.out]; exact Nat.le_refl _)
        obtain ⟨b4, off4, x, hA4, _, hx, hcx⟩ := HA3.out.at_ (k := s) (by rw [HT8]; exact hs8)
        cases hA4
        have hxe := T_of hx.out
        have hxb := HT.out.bd hs8
        rw [hxe] at hxb
        have hx0 := hxb.1
        have hx1 := hxb.2
        have e1 : IntKind.i64.wrap (x - z) = x - z := IntWalk.i64_in _ (by omega)
        have HE : Hid (T t (hasOf (wayF ts) ns) - paidOf ts ns = x - z) := Lib.hid (by rw [← hxe, HSJ.out, HZJ.out, htk])
        have hs0 : (0 : Int) ≤ (s : Int) := by omega
        have hs7 : (s : Int) < 8 := by omega
        clear hx hxe hxb htk
        go_wp2
        go_ret
        exact ⟨by rw [HE.out]; rfl, B3⟩
  · exact absurd HV.out hno

end Go.Proofs.Ytdbpjlconbifpaa
