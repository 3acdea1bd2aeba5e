/-
  Chapter 10, the program: the contracts of dealsOf, TradesOf, TradeRange.
-/
import Derived.Test.YtpildecpabeanaaEd
import Derived.Test.YtpildecpabeanaaImplA
import Derived.Deep.RegionLaw
import Derived.Test.YtpildecpabeanaaShelf
import Derived.Sort.OwnSortedInts
import Derived.Shelf.Slices.Reverse
namespace Go.Proofs.Ytpildecpabeanaa
open Go.RowKit

theorem SortE_any (B g c : Nat) (xs : List Int) (n : Nat) (w : World) (h : Own w B (some ⟨g, 0, none⟩) c xs) (hn : xs.length = n) (hl : n ≤ 1099511627776) :
    Calls Try.prog 115 #[.slice (some ⟨g, 0, none⟩) n c] w fun e w' => e = .returned (.tuple #[]) ∧ Own w' B (some ⟨g, 0, none⟩) c (upL xs) ∧ w.grownBy w' (some g) := by
  subst hn; exact Sort_any B g c xs w h hl

theorem ReverseE_any (B g c : Nat) (xs : List Int) (n : Nat) (w : World) (h : Own w B (some ⟨g, 0, none⟩) c xs) (hn : xs.length = n) (hl : n ≤ 1099511627776) :
    Calls Try.prog 116 #[.slice (some ⟨g, 0, none⟩) n c] w fun e w' => e = .returned (.tuple #[]) ∧ Own w' B (some ⟨g, 0, none⟩) c xs.reverse ∧ w.grownBy w' (some g) := by
  subst hn
  have hg := h.ge
  have hlt := h.lt
  rcases h.2 with ⟨hv, _⟩ | ⟨g', cap, cur, hv, _, hb, hn, hcap, hcs, htake⟩
  · cases hv
  injection hv with hA _ hc
  injection hA with hA
  injection hA with hA
  subst hA hc
  rw [Nat.mul_one] at htake
  refine (Try.slices_Reverse_int g 0 c xs w (holds_of_blockI hb htake) (by omega)).mono ?_
  rintro e w' ⟨rfl, n, rfl⟩
  have e : ∀ v : World, Sort.grow v #[] = v := fun v => by simp [Sort.grow]
  refine ⟨rfl, ?_, by have := grownBy_sortedI (w := w) (g := g) (n := n) (os := #[]) xs.reverse.toArray; rw [e] at this; exact this⟩
  have := ownsRow_sortedI (n := n) (os := #[]) (ts := xs.reverse) (by simp) hg hb hn hcap hcs
  rw [e] at this
  unfold Own
  rw [List.length_reverse]
  exact this

/-- What dealsOf hands back: the deals in own memory. -/
def DealsIs (w : World) (ds : List (Int × Int)) (e : Ending) (w' : World) : Prop :=
  ∃ A c, e = .returned (.slice A ds.length c) ∧ OwnD w' w.heap.size A c ds ∧ Below w.heap.size w w'

theorem ownD_none (w : World) (B : Nat) : OwnD w B none 0 [] := World.ownsRow_nil w B 54 2

theorem OwnD.grownBelow {w w' wa : World} {B : Nat} {A0 : Option Addr} {c0 : Nat} {ps : List (Int × Int)} (hb : Below B wa w) (ho : OwnD w B A0 c0 ps) (hs : B ≤ w.heap.size) (hg : w.grownBy w' (ofA A0)) : Below B wa w' :=
  hb.grown hg hs (fun k hk => (World.ownsRow.lt ho k (by cases A0 with | none => cases hk | some a => simpa [Value.ownBlock, ofA] using hk)).1)


theorem Own.keptE {w w' : World} {B g g' c : Nat} {zs : List Int} (h : Own w B (some ⟨g, 0, none⟩) c zs) (hg : w.grownBy w' (some g')) (hne : g ≠ g') : Own w' B (some ⟨g, 0, none⟩) c zs :=
  World.ownsRow.kept h hg (.inr (by simpa [Value.ownBlock] using hne))

theorem dlF_all {D U : List Int} {k : Nat} (h : trN D U = k + trN (D.drop k) (U.drop k)) (h0 : trN (D.drop k) (U.drop k) = 0) : (D.zip U).take k = dlF D U := by
  unfold dlF; rw [h, h0, Nat.add_zero]

theorem step_append_deal {ops : Array Oper} {o : Oper} {a : Act} {w : World} {K : Act → World → Prop} {Q : Exit → Act → World → Prop} {E : Prop} (hgd : o.guard = none) (s x : Operand)
    (ho : o.op = .call { callee := .builtin .append, args := #[s, x], argTypes := #[51, 51] })
    (base : Nat) (A0 : Option Addr) (c0 : Nat) (ps : List (Int × Int)) (n : Nat) (hpn : ps.length = n) (hs : a.eval s = .slice A0 n c0) (hown : OwnD w base A0 c0 ps)
    (b c : Nat) (u v : Int) (hx : a.eval x = .slice (some ⟨b, 0, none⟩) 1 c) (h0 : w.cell? ⟨b, 0, none⟩ = some (.int .i64 u)) (h1 : w.cell? ⟨b, 1, none⟩ = some (.int .i64 v))
    (hn : n + 1 ≤ 1099511627776) (hbase : base ≤ w.heap.size)
    (h : ∀ g c' w', OwnD w' base (some ⟨g, 0, none⟩) c' (ps ++ [(u, v)]) → w.grownBy w' (ofA A0) → K (a.put o.dst (.slice (some ⟨g, 0, none⟩) (n + 1) c')) w') :
    if Region.wanted o (yielded ops a.tmps) = true then Oper.wp Try.prog o a w K Q else E := by
  have hw : Region.wanted o (yielded ops a.tmps) = true := by simp [Region.wanted, hgd]
  rw [if_pos hw]
  subst hpn
  obtain ⟨g, c', w', hrun, h2, h3⟩ := run_append_deal o.type w base A0 c0 ps hown b c u v h0 h1 hn hbase
  unfold Oper.wp execOp
  simp only [ho, resolve, invoke, builtin, Sem.run_bind, Sem.run_pure, Result.andThen_ok, List.map_toArray, List.map_cons, List.map_nil, hs, hx, hrun]
  exact h g c' w' h2 h3

set_option maxHeartbeats 1000000 in
theorem dealsOf_any (A A2 : Option Addr) (c c2 : Nat) (xs ys : List Int) (w : World) (h : Rd w A c xs) (h2 : Rd w A2 c2 ys) (h1 : 1 ≤ xs.length) (h12 : 1 ≤ ys.length) (hl : xs.length ≤ 1000) (hl2 : ys.length ≤ 1000) :
    Calls Try.prog 57 #[.slice A xs.length c, .slice A2 ys.length c2] w (DealsIs w (dlF (dnL xs) (upL ys))) := by
  obtain ⟨b, off, rfl, _⟩ := h.open_ h1
  obtain ⟨b', off', rfl, _⟩ := h2.open_ h12
  obtain ⟨M, hM⟩ : ∃ M : Nat, M = min xs.length ys.length := ⟨_, rfl⟩
  have hmin : min (xs.length : Int) (ys.length : Int) = (M : Int) := by omega
  have hMl : M ≤ 1000 := by omega
  have hMx : M ≤ xs.length := by omega
  have hMy : M ≤ ys.length := by omega
  obtain ⟨D, hD⟩ : ∃ D, D = dnL xs := ⟨_, rfl⟩
  obtain ⟨U, hU⟩ : ∃ U, U = upL ys := ⟨_, rfl⟩
  have HD := Lib.hid hD
  have HU := Lib.hid hU
  have HDL : Hid (M ≤ D.length ∧ M ≤ U.length ∧ (D.length ≤ M ∨ U.length ≤ M)) := Lib.hid (by rw [hD, hU, dnL_len, upL_len]; omega)
  rw [← hD, ← hU]
  clear hD hU hM
  go_enter Try.func57, Try.ntmps57
  go_wp2_with fail
  refine (Clone_any _ _ _ _ _ h (by omega)).mono ?_
  rintro e w1 ⟨g1, k1, rfl, o1, b1⟩
  go_wp2_with fail
  refine (Clone_any _ _ _ _ _ (h2.below b1) (by omega)).mono ?_
  rintro e w2 ⟨g2, k2, rfl, o2, b2⟩
  have B2 := b1.trans (b2.mono b1.size)
  have hne : g2 ≠ g1 := by have := o1.lt; have := o2.ge; omega
  have p1 := o1.below b2
  have q2 := o2.base (B' := w.heap.size) b1.size
  go_wp2_with fail
  refine (SortE_any _ _ _ xs _ _ p1 rfl (by omega)).mono ?_
  rintro e w3 ⟨rfl, o3, hg3⟩
  have q3 := q2.keptE hg3 hne
  have B3 := B2.grown hg3 B2.size (fun k hk => by cases hk; exact p1.ge)
  go_wp2_with fail
  refine (ReverseE_any _ _ _ (upL xs) _ _ o3 (upL_len xs) (by omega)).mono ?_
  rintro e w4 ⟨rfl, o4, hg4⟩
  have q4 := q3.keptE hg4 hne
  have B4 := B3.grown hg4 B3.size (fun k hk => by cases hk; exact o3.ge)
  go_wp2_with fail
  refine (SortE_any _ _ _ ys _ _ q4 rfl (by omega)).mono ?_
  rintro e w5 ⟨rfl, o5, hg5⟩
  have B5 := B4.grown hg5 B4.size (fun k hk => by cases hk; exact q4.ge)
  have HOD : Hid (Own w5 w.heap.size (some ⟨g1, 0, none⟩) k1 D) := Lib.hid (by rw [HD.out]; exact o4.keptE hg5 (Ne.symm hne))
  have HOU : Hid (Own w5 w.heap.size (some ⟨g2, 0, none⟩) k2 U) := Lib.hid (by rw [HU.out]; exact o5)
  clear o1 o2 p1 q2 q3 q4 o3 o4 o5 hg3 hg4 hg5 B2 B3 B4 b1 b2 h h2
  go_wp2
  go_loopw [7, 24] (fun v i wr => ∃ (k : Nat) (A0 : Option Addr) (c0 : Nat), k ≤ M ∧ i = .int .i64 k ∧ v = .slice A0 k c0 ∧ Hid (OwnD wr w5.heap.size A0 c0 ((D.zip U).take k)) ∧ Below w5.heap.size w5 wr ∧ Hid (trN D U = k + trN (D.drop k) (U.drop k)))
    (fun _ i _ => M - (intOf i).toNat)
  case atStart => exact ⟨0, none, 0, Nat.zero_le _, rfl, rfl, Lib.hid (by simpa using ownD_none w5 w5.heap.size), Below.refl _ _, Lib.hid (by simp)⟩
  case round =>
    obtain ⟨k, A0, c0, hk, rfl, rfl, HO, hb, HT⟩ := hrel
    have HZL : Hid (((D.zip U).take k).length = k) := Lib.hid (by have := HDL.out; rw [List.length_take, List.length_zip]; omega)
    by_cases hlt : k < M
    · obtain ⟨x, hx⟩ := at_some (xs := D) (k := k) (by have := HDL.out; omega)
      obtain ⟨y, hy⟩ := at_some (xs := U) (k := k) (by have := HDL.out; omega)
      have hcx := (HOD.out.below hb).cell hx
      have hcy := (HOU.out.below hb).cell hy
      by_cases hxy : x < y
      · have HE : Hid ((D.zip U).take k = dlF D U) := Lib.hid (dlF_all HT.out (tr_no hx hy (by omega)).1)
        clear hx hy
        go_wp2
        go_quiet (fail)
        go_wp2
        go_ret
        exact ⟨A0, c0, by rw [← HE.out, HZL.out]; rfl, by rw [← HE.out]; exact (HO.out.drewN _).base B5.size, B5.trans ((below_drewN' hb _).mono B5.size)⟩
      · have HS := Lib.hid (dl_take hx hy)
        have HT' : Hid (trN D U = k + 1 + trN (D.drop (k + 1)) (U.drop (k + 1))) := Lib.hid (by rw [HT.out, (tr_yes hx hy (by omega)).1]; omega)
        clear hx hy
        go_wp2
        go_quiet (fail)
        obtain ⟨W, hW⟩ : ∃ W, W = wr.drewN nq := ⟨_, rfl⟩
        have HOW : Hid (OwnD (W.alloc (.cells #[.int .i64 x, .int .i64 y] 54)) w5.heap.size A0 c0 ((D.zip U).take k)) := Lib.hid (by rw [hW]; exact (HO.out.drewN nq).below ((Below.refl _ _).alloc (Nat.le_refl _) _))
        have HBW : Hid (Below w5.heap.size w5 W) := Lib.hid (by rw [hW]; exact below_drewN' hb _)
        have hcx' : W.cell? ⟨g1, k, none⟩ = some (.int .i64 x) := by rw [hW]; exact hcx
        have hcy' : W.cell? ⟨g2, k, none⟩ = some (.int .i64 y) := by rw [hW]; exact hcy
        have HBA := Lib.hid (HBW.out.alloc HBW.out.size (.cells #[.int .i64 x, .int .i64 y] 54))
        have HC0 : Hid ((W.alloc (.cells #[.int .i64 x, .int .i64 y] 54)).cell? ⟨W.heap.size, 0, none⟩ = some (.int .i64 x)) := Lib.hid (by rw [World.cell?_alloc_new]; rfl)
        have HC1 : Hid ((W.alloc (.cells #[.int .i64 x, .int .i64 y] 54)).cell? ⟨W.heap.size, 1, none⟩ = some (.int .i64 y)) := Lib.hid (by rw [World.cell?_alloc_new]; rfl)
        rw [← hW]
        clear hW hcx hcy
        have hkx : k < xs.length := by omega
        have hky : k < ys.length := by omega
        go_wp2_with fail
        go_region_law (((refine step_append_deal (by rfl) _ _ (by rfl) w5.heap.size A0 c0 ((D.zip U).take k) k HZL.out (by rfl) HOW.out W.heap.size 1 x y (by rfl) HC0.out HC1.out (by omega) HBA.out.size ?_; intro g6 c6 w6 o6 hg6)))
        all_goals
          have HO6 : Hid (OwnD w6 w5.heap.size (some ⟨g6, 0, none⟩) c6 ((D.zip U).take (k + 1))) := Lib.hid (by rw [HS.out]; exact o6)
          have HB6 := Lib.hid (OwnD.grownBelow HBA.out.drew HOW.out.drew HBA.out.drew.size hg6)
          clear o6 hg6
          go_wp2
          go_roundw
          case rel => exact ⟨k + 1, some ⟨g6, 0, none⟩, c6, by omega, by go_num, rfl, HO6, HB6.out, HT'⟩
          case measure => simp [intOf]; omega
    · obtain rfl : k = M := by omega
      have HE : Hid ((D.zip U).take k = dlF D U) := Lib.hid (dlF_all HT.out (tr_end HDL.out.2.2).1)
      go_wp2
      go_ret
      exact ⟨A0, c0, by rw [← HE.out, HZL.out]; rfl, by rw [← HE.out]; exact HO.out.base B5.size, B5.trans (hb.mono B5.size)⟩

end Go.Proofs.Ytpildecpabeanaa
