/-
  Chapter 1, the program: the contracts of SaleBy and isBidder.
-/
import Derived.Test.YtcbhjcbbjegmiaaImplB
import Derived.Lib.SliceRun
namespace Go.Proofs.Ytcbhjcbbjegmiaa
open Go.RowKit

theorem run_equalIn_func (w : World) (d : Nat) (fn : Fn) (a b : Array Value) :
    (Op.equalIn (d + 1) 58 (.func fn a b) .nilFunc).run Try.prog w = .ok false w := by
  simp [Op.equalIn, run_underlying Try.underlying58]
theorem run_eql_func (fn : Fn) (a b : Array Value) (w : World) :
    (binOp .eql 58 (.func fn a b) .nilFunc).run Try.prog w = .ok (.bool false) w := by
  simp only [binOp]
  simp [Op.equal, Op.maxDepth, run_equalIn_func w 9999]
theorem run_equalIn_nilFunc (w : World) (d : Nat) :
    (Op.equalIn (d + 1) 58 .nilFunc .nilFunc).run Try.prog w = .ok true w := by
  simp [Op.equalIn, run_underlying Try.underlying58]
theorem run_eql_nilFunc (w : World) :
    (binOp .eql 58 .nilFunc .nilFunc).run Try.prog w = .ok (.bool true) w := by
  simp only [binOp]
  simp [Op.equal, Op.maxDepth, run_equalIn_nilFunc w 9999]

set_option maxHeartbeats 400000 in
theorem SaleBy_yes (s : ByteArray) (kd : Nat) (A : Option Addr) (c : Nat) (xs : List Int) (r : Int) (w : World) (hk : KindIs s kd) (h : Rd w A c xs) (hv : vB xs = true) (hr : inR r 0 30 = true) :
    Calls Try.prog 16 #[.string s, .slice A xs.length c, .int .i64 r] w (SaleIs w xs kd r) := by
  have hb := vB_le hv
  have HV := Lib.hid hv
  have HR := Lib.hid hr
  have h1 : 1 ≤ xs.length := hb.1
  have hl : xs.length ≤ 1048576 := by omega
  have hl2 : xs.length ≤ 1099511627776 := by omega
  clear hv hr hb
  obtain ⟨b, off, rfl, _⟩ := h.open_ h1
  have qf := run_eql_func
  go_enter Try.func16, Try.ntmps16
  go_wp2_with fail
  refine (saleOf_yes s kd _ hk).mono ?_
  rintro e w1 ⟨v, rfl, hF, hb1⟩
  have h2 := h.below hb1
  rcases hF with ⟨hk1, hk2, rb, rfl, hc⟩ | ⟨rfl, rfl⟩
  · go_wp2_with fail
    refine (ValidBids_any _ _ _ _ h2 hl2).mono ?_
    rw [HV.out]
    rintro e w2 ⟨rfl, rfl⟩
    go_wp2_with fail
    refine (isBid_any _ _).mono ?_
    rw [HR.out]
    rintro e w2 ⟨rfl, rfl⟩
    go_wp2_with fail
    refine (winnerOf_any _ _ _ _ _ h2 h1 hl2).mono ?_
    rintro e w2 ⟨rfl, rfl⟩
    go_wp2_with fail
    refine (price_any _ _ _ _ _ _ _ _ h2 h1 hl hk1 hk2 hc).mono ?_
    rintro e w3 ⟨g, c3, rfl, ho, hb3⟩
    go_wp2
    go_ret2
    exact ⟨g, c3, rfl, ho.base hb1.size, hb1.trans (hb3.mono hb1.size)⟩
  · go_wp2_with fail
    refine (ValidBids_any _ _ _ _ h2 hl2).mono ?_
    rw [HV.out]
    rintro e w2 ⟨rfl, rfl⟩
    go_wp2_with fail
    refine (isBid_any _ _).mono ?_
    rw [HR.out]
    rintro e w2 ⟨rfl, rfl⟩
    go_wp2_with fail
    refine (winnerOf_any _ _ _ _ _ h2 h1 hl2).mono ?_
    rintro e w2 ⟨rfl, rfl⟩
    go_wp2_with fail
    refine (allPay_any _ _ _ _ _ _ _ h2 hl).mono ?_
    rintro e w3 ⟨g, c3, rfl, ho, hb3⟩
    go_wp2
    go_ret2
    exact ⟨g, c3, rfl, ho.base hb1.size, hb1.trans (hb3.mono hb1.size)⟩

end Go.Proofs.Ytcbhjcbbjegmiaa
