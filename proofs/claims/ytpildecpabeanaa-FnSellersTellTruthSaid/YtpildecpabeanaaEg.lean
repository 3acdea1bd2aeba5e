/-
  Chapter 10, the model: the contracts of trades, TradesOf, TradeRange, lessTrade, TradeLess, TradeGain.
-/
import Derived.Test.YtpildecpabeanaaEf
import Derived.Test.YtpildecpabeanaaEi
namespace Go.Proofs.Ytpildecpabeanaa
open Go.RowKit

theorem validTrade_any (A A2 : Option Addr) (c c2 : Nat) (xs ys : List Int) (w : World) (h : Rd w A c xs) (h2 : Rd w A2 c2 ys) (hl : xs.length ≤ 1099511627776) (hl2 : ys.length ≤ 1099511627776) :
    Calls Try.prog 58 #[.slice A xs.length c, .slice A2 ys.length c2] w fun e w' => e = .returned (.bool (vB xs && vB ys)) ∧ w = w' := by
  have H1 := Lib.hid (validBids_any A c xs w h hl)
  have H2 := Lib.hid (validBids_any A2 c2 ys w h2 hl2)
  clear h h2
  cases hx : vB xs with
  | true =>
    rw [hx] at H1
    clear hx
    go_enter Try.func58, Try.ntmps58
    go_wp2_with fail
    refine H1.out.mono ?_
    rintro e w1 ⟨rfl, rfl⟩
    go_wp2_with fail
    refine H2.out.mono ?_
    rintro e w1 ⟨rfl, rfl⟩
    go_wp2
    go_ret
    exact ⟨by rw [Bool.true_and]; rfl, rfl⟩
  | false =>
    rw [hx] at H1
    clear hx
    go_enter Try.func58, Try.ntmps58
    go_wp2_with fail
    refine H1.out.mono ?_
    rintro e w1 ⟨rfl, rfl⟩
    go_wp2
    go_ret
    exact ⟨by rw [Bool.false_and]; rfl, rfl⟩

/-- Where the n-th one by size stands. -/
theorem dn_place {xs : List Int} {n : Nat} (hn : n < xs.length) : ∃ (j : Nat) (x : Int), (ordF (fun j => xs.getD j 0) xs.length)[n]? = some j ∧ j < xs.length ∧ xs[j]? = some x ∧ (dnL xs)[n]? = some x := by
  obtain ⟨j, hj, hjl⟩ := ord_at (f := fun j => xs.getD j 0) hn
  obtain ⟨x, hx⟩ := at_some hjl
  refine ⟨j, x, hj, hjl, hx, ?_⟩
  rw [← vals_dn, vals_at hj, getD_of hx]
theorem up_place {xs : List Int} {n : Nat} (hn : n < xs.length) : ∃ (j : Nat) (x : Int), (ordF (fun j => -xs.getD j 0) xs.length)[n]? = some j ∧ j < xs.length ∧ xs[j]? = some x ∧ (upL xs)[n]? = some x := by
  obtain ⟨j, hj, hjl⟩ := ord_at (f := fun j => -xs.getD j 0) hn
  obtain ⟨x, hx⟩ := at_some hjl
  refine ⟨j, x, hj, hjl, hx, ?_⟩
  rw [← vals_up, vals_at hj, getD_of hx]

set_option maxHeartbeats 2000000 in
theorem Strades_any (A A2 : Option Addr) (c c2 : Nat) (b s : List Int) (w : World) (h : Rd w A c b) (h2 : Rd w A2 c2 s) (hb : Bd b) (hs : Bd s) :
    Calls Try.prog 59 #[.slice A b.length c, .slice A2 s.length c2] w fun e w' => e = .returned (.tuple #[.int .i64 (trOf b s), .int .i64 (gnOf b s)]) ∧ Below w.heap.size w w' := by
  have hbl := hb.1.2
  have hsl := hs.1.2
  have HDP := Lib.hid (fun (n : Nat) (hn : n < b.length) => dn_place hn)
  have HUP := Lib.hid (fun (n : Nat) (hn : n < s.length) => up_place hn)
  have HBD := Lib.hid hb
  have HSD := Lib.hid hs
  have HO1 := Lib.hid (inOrder_dn A c b _ w rfl h hbl)
  have HO2 := Lib.hid (fun (w1 : World) (hb : Below w.heap.size w w1) => inOrder_up A2 c2 s _ w1 rfl (h2.below hb) hsl)
  have HTE : Hid (∀ k : Nat, ∀ z : Int, trN (dnL b) (upL s) = k + trN ((dnL b).drop k) ((upL s).drop k) → trG (dnL b) (upL s) = z + trG ((dnL b).drop k) ((upL s).drop k) → trN ((dnL b).drop k) ((upL s).drop k) = 0 ∧ trG ((dnL b).drop k) ((upL s).drop k) = 0 → trOf b s = k ∧ gnOf b s = z) :=
    Lib.hid (fun k z h1 h2 h3 => by unfold trOf gnOf; omega)
  have HDL : Hid ((dnL b).length = b.length ∧ (upL s).length = s.length) := Lib.hid ⟨dnL_len b, upL_len s⟩
  clear hb hs
  go_enter Try.func59, Try.ntmps59
  go_wp2_with fail
  refine HO1.out.mono ?_
  rintro e w1 ⟨g1, k1, rfl, o1, b1⟩
  go_wp2_with fail
  refine (HO2.out w1 b1).mono ?_
  rintro e w2 ⟨g2, k2, rfl, o2, b2⟩
  have B2 := b1.trans (b2.mono b1.size)
  have HP1 := Lib.hid (o1.below b2)
  have HP2 := Lib.hid o2
  have HR1 := Lib.hid (h.below B2)
  have HR2 := Lib.hid (h2.below B2)
  clear o1 o2 b1 b2 HO1 HO2 h h2
  go_wp2
  go_loopw [8, 9] (fun nv gv wr => ∃ (k q : Nat) (z : Int), k ≤ b.length ∧ k ≤ s.length ∧ nv = .int .i64 k ∧ gv = .int .i64 z ∧ wr = w2.drewN q ∧ 0 ≤ z ∧ z ≤ 30 * (k : Int) ∧
      Hid (trN (dnL b) (upL s) = k + trN ((dnL b).drop k) ((upL s).drop k)) ∧ Hid (trG (dnL b) (upL s) = z + trG ((dnL b).drop k) ((upL s).drop k)))
    (fun nv _ _ => b.length - (intOf nv).toNat)
  case atStart => exact ⟨0, 0, 0, Nat.zero_le _, Nat.zero_le _, rfl, rfl, rfl, by decide, by decide, Lib.hid (by simp), Lib.hid (by simp)⟩
  case round =>
    obtain ⟨k, q, z, hk, hk2, rfl, rfl, rfl, hz0, hz1, HN, HG⟩ := hrel
    by_cases hlt : k < b.length
    · by_cases hlt2 : k < s.length
      · obtain ⟨j, x, hj, hjl, hx, hdx⟩ := HDP.out k hlt
        obtain ⟨j2, y, hj2, hjl2, hy, huy⟩ := HUP.out k hlt2
        have hc1 := HP1.out.cell (lstN_at hj)
        have hc2 := HP2.out.cell (lstN_at hj2)
        obtain ⟨br, ofr, x', rfl, _, hx', hcx⟩ := HR1.out.at_ hjl
        obtain rfl : x' = x := by have := hx'.out; rw [hx] at this; exact (Option.some.inj this).symm
        obtain ⟨br2, ofr2, y', rfl, _, hy', hcy⟩ := HR2.out.at_ hjl2
        obtain rfl : y' = y := by have := hy'.out; rw [hy] at this; exact (Option.some.inj this).symm
        have hxb := HBD.out.at_ hx
        have hyb := HSD.out.at_ hy
        by_cases hyx : y' ≤ x'
        · obtain ⟨e1, e2⟩ := tr_yes hdx huy hyx
          have HN' : Hid (trN (dnL b) (upL s) = k + 1 + trN ((dnL b).drop (k + 1)) ((upL s).drop (k + 1))) := Lib.hid (by rw [HN.out, e1]; omega)
          have HG' : Hid (trG (dnL b) (upL s) = z + x' - y' + trG ((dnL b).drop (k + 1)) ((upL s).drop (k + 1))) := Lib.hid (by rw [HG.out, e2]; omega)
          have hw1 : IntKind.i64.wrap (z + x') = z + x' := IntWalk.i64_in _ (by omega)
          have hw2 : IntKind.i64.wrap (z + x' - y') = z + x' - y' := IntWalk.i64_in _ (by omega)
          have hz2 : 0 ≤ z + x' - y' := by omega
          have hz3 : z + x' - y' ≤ 30 * ((k + 1 : Nat) : Int) := by push_cast; omega
          clear e1 e2 hj hj2 hx hy hdx huy hx' hy' HN HG
          go_wp2
          go_quiet (fail)
          go_wp2
          go_quiet (fail)
          go_wp2
          go_roundw
          case rel => exact ⟨k + 1, _, z + x' - y', by omega, by omega, by go_num, rfl, rfl, hz2, hz3, HN', HG'⟩
          case measure => simp [intOf]; omega
        · have HE := Lib.hid (HTE.out k z HN.out HG.out (tr_no hdx huy hyx))
          clear hj hj2 hx hy hdx huy hx' hy' HN HG
          go_wp2
          go_quiet (fail)
          go_wp2
          go_ret2
          exact ⟨by rw [HE.out.1, HE.out.2]; rfl, below_drewN' (below_drewN' B2 _) _⟩
      · have HE := Lib.hid (HTE.out k z HN.out HG.out (tr_end (.inr (by rw [HDL.out.2]; omega))))
        obtain rfl : k = s.length := by omega
        clear HN HG
        go_wp2_with fail
        go_quiet (fail)
        go_wp2
        go_ret2
        exact ⟨by rw [HE.out.1, HE.out.2]; rfl, below_drewN' (below_drewN' B2 _) _⟩
    · have HE := Lib.hid (HTE.out k z HN.out HG.out (tr_end (.inl (by rw [HDL.out.1]; omega))))
      obtain rfl : k = b.length := by omega
      clear HN HG
      go_wp2_with fail
      go_quiet (fail)
      go_wp2
      go_ret2
      exact ⟨by rw [HE.out.1, HE.out.2]; rfl, below_drewN' (below_drewN' B2 _) _⟩

theorem STradesOf_yes (A A2 : Option Addr) (c c2 : Nat) (b s : List Int) (w : World) (h : Rd w A c b) (h2 : Rd w A2 c2 s) (hb : vB b = true) (hs : vB s = true) :
    Calls Try.prog 16 #[.slice A b.length c, .slice A2 s.length c2] w (PairIs w (trOf b s) (gnOf b s)) := by
  have HB := Lib.hid (vB_Bd hb)
  have HS := Lib.hid (vB_Bd hs)
  have HV := Lib.hid (validTrade_any A A2 c c2 b s w h h2 (by have := HB.out.1; omega) (by have := HS.out.1; omega))
  rw [hb, hs] at HV
  have HT := Lib.hid (Strades_any A A2 c c2 b s w h h2 HB.out HS.out)
  clear h h2 hb hs
  go_enter Try.func16, Try.ntmps16
  go_wp2_with fail
  refine HV.out.mono ?_
  rintro e w1 ⟨rfl, rfl⟩
  go_wp2_with fail
  refine HT.out.mono ?_
  rintro e w1 ⟨rfl, b1⟩
  go_wp2
  go_ret2
  exact ⟨rfl, b1⟩

theorem STradesOf_no (A A2 : Option Addr) (c c2 : Nat) (b s : List Int) (w : World) (h : Rd w A c b) (h2 : Rd w A2 c2 s) (hl : b.length ≤ 1099511627776) (hl2 : s.length ≤ 1099511627776) (hv : (vB b && vB s) = false) :
    Calls Try.prog 16 #[.slice A b.length c, .slice A2 s.length c2] w (PairIs w (-1) (-1)) := by
  have HV := Lib.hid (validTrade_any A A2 c c2 b s w h h2 hl hl2)
  rw [hv] at HV
  clear h h2 hv
  go_enter Try.func16, Try.ntmps16
  go_wp2_with fail
  refine HV.out.mono ?_
  rintro e w1 ⟨rfl, rfl⟩
  go_wp2
  go_ret2
  exact ⟨rfl, Below.refl _ _⟩

end Go.Proofs.Ytpildecpabeanaa
