/-
  Chapter 10, the program: the contracts of TradesOf, TradeRange, TradeLess.
-/
import Derived.Test.YtpildecpabeanaaEi
namespace Go.Proofs.Ytpildecpabeanaa
open Go.RowKit

theorem dealsOf_is {n : Nat} {ds : List (Int × Int)} (A A2 : Option Addr) (c c2 : Nat) (xs ys : List Int) (w : World) (hn : ds.length = n) (hd : ds = dlF (dnL xs) (upL ys)) (h : Rd w A c xs) (h2 : Rd w A2 c2 ys) (hb : Bd xs) (hs : Bd ys) :
    Calls Try.prog 57 #[.slice A xs.length c, .slice A2 ys.length c2] w fun e w' => ∃ A c, e = .returned (.slice A n c) ∧ OwnD w' w.heap.size A c ds ∧ Below w.heap.size w w' := by
  subst hn hd
  have h1 := hb.1
  have h2' := hs.1
  exact dealsOf_any A A2 c c2 xs ys w h h2 h1.1 h2'.1 (by omega) (by omega)

theorem deals_at {b s : List Int} (hb : Bd b) (hs : Bd s) {k : Nat} (hk : k < trOf b s) : ∃ x y, (dlF (dnL b) (upL s))[k]? = some (x, y) ∧ (dnL b)[k]? = some x ∧ (upL s)[k]? = some y ∧ y ≤ x ∧ 0 ≤ y ∧ x ≤ 30 := by
  obtain ⟨x, y, hx, hy, hle⟩ := tr_in (dnL b) (upL s) k hk
  have h1 := hb.2 x (mem_dn.1 (List.mem_of_getElem? hx))
  have h2 := hs.2 y (mem_up.1 (List.mem_of_getElem? hy))
  exact ⟨x, y, dlF_at hx hy hk, hx, hy, hle, by omega, by omega⟩

set_option maxHeartbeats 1000000 in
theorem TradesOf_yes (A A2 : Option Addr) (c c2 : Nat) (b s : List Int) (w : World) (h : Rd w A c b) (h2 : Rd w A2 c2 s) (hb : vB b = true) (hs : vB s = true) :
    Calls Try.prog 15 #[.slice A b.length c, .slice A2 s.length c2] w (PairIs w (trOf b s) (gnOf b s)) := by
  have HB := Lib.hid (vB_Bd hb)
  have HS := Lib.hid (vB_Bd hs)
  have HV := Lib.hid (areTraders_any A A2 c c2 b s w h h2 (by have := HB.out.1; omega) (by have := HS.out.1; omega))
  rw [hb, hs] at HV
  obtain ⟨n, hn⟩ : ∃ n, n = trOf b s := ⟨_, rfl⟩
  obtain ⟨gg, hg⟩ : ∃ g, g = gnOf b s := ⟨_, rfl⟩
  obtain ⟨ds, hd⟩ : ∃ ds, ds = dlF (dnL b) (upL s) := ⟨_, rfl⟩
  have hdl : ds.length = n := by rw [hd, dlF_len, hn]; rfl
  have HDA : Hid (∀ k, k < n → ∃ x y, ds[k]? = some (x, y) ∧ (dnL b)[k]? = some x ∧ (upL s)[k]? = some y ∧ y ≤ x ∧ 0 ≤ y ∧ x ≤ 30) := Lib.hid (fun k hk => by rw [hd]; exact deals_at HB.out HS.out (by rw [← hn]; exact hk))
  have HG0 : Hid (gg = trG ((dnL b).drop 0) ((upL s).drop 0)) := Lib.hid (by rw [hg]; rfl)
  have HGE : Hid (trG ((dnL b).drop n) ((upL s).drop n) = 0) := Lib.hid (by rw [hn]; exact trN_end _ _)
  have hn6 : n ≤ 6 := by have := (trOf_le b s).1; have := HB.out.1.2; omega
  have HD := Lib.hid (dealsOf_is A A2 c c2 b s w hdl hd h h2 HB.out HS.out)
  have HDL := Lib.hid hdl
  rw [← hn, ← hg]
  clear h h2 hb hs hn hg hd hdl HB HS
  go_enter Try.func15, Try.ntmps15
  go_wp2_with fail
  refine HV.out.mono ?_
  rintro e w1 ⟨rfl, rfl⟩
  go_wp2_with fail
  refine HD.out.mono ?_
  rintro e w1 ⟨A3, c3, rfl, o1, b1⟩
  have HO1 := Lib.hid o1.rd
  clear o1
  go_wp2_with fail
  go_loopw [7, 19] (fun gv iv wr => ∃ (k : Nat) (z : Int), k ≤ n ∧ gv = .int .i64 z ∧ iv = .int .i64 (k : Int) ∧ 0 ≤ z ∧ z ≤ 30 * (k : Int) ∧ Hid (gg = z + trG ((dnL b).drop k) ((upL s).drop k)) ∧ Below w1.heap.size w1 wr)
    (fun _ iv _ => n - (intOf iv).toNat)
  case atStart => exact ⟨0, 0, Nat.zero_le _, rfl, rfl, by decide, by decide, Lib.hid (by rw [HG0.out]; simp), Below.refl _ _⟩
  case round =>
    obtain ⟨k, z, hk, rfl, rfl, hz0, hz1, HG, hbw⟩ := hrel
    by_cases hlt : k < n
    · obtain ⟨x, y, hds, hx, hy, hle, hy0, hx30⟩ := HDA.out k hlt
      obtain ⟨bd, x', y', rfl, hbl, hxy, hc0, hc1⟩ := (HO1.out.below hbw).at_ (k := k) (by rw [HDL.out]; exact hlt)
      obtain ⟨rfl, rfl⟩ : x' = x ∧ y' = y := by have := hxy.out; rw [hds] at this; injection this with this; injection this with e1 e2; exact ⟨e1.symm, e2.symm⟩
      have e2 := (tr_yes hx hy hle).2
      have HG' : Hid (gg = z + (x' - y') + trG ((dnL b).drop (k + 1)) ((upL s).drop (k + 1))) := Lib.hid (by rw [HG.out, e2]; omega)
      have hw1 : IntKind.i64.wrap (x' - y') = x' - y' := IntWalk.i64_in _ (by omega)
      have hw2 : IntKind.i64.wrap (z + (x' - y')) = z + (x' - y') := IntWalk.i64_in _ (by omega)
      have hz2 : 0 ≤ z + (x' - y') := by omega
      have hz3 : z + (x' - y') ≤ 30 * ((k + 1 : Nat) : Int) := by push_cast; omega
      have HBA := Lib.hid (fun o => hbw.alloc hbw.size o)
      clear e2 hds hx hy hxy hle
      go_wp2
      go_roundw
      case rel => exact ⟨k + 1, z + (x' - y'), by omega, rfl, by go_num, hz2, hz3, HG', HBA.out _⟩
      case measure => simp [intOf]; omega
    · obtain rfl : k = n := by omega
      have HE : Hid (gg = z) := Lib.hid (by rw [HG.out, HGE.out]; omega)
      go_wp2
      go_ret2
      exact ⟨by rw [HE.out]; rfl, b1.trans (hbw.mono b1.size)⟩

end Go.Proofs.Ytpildecpabeanaa
