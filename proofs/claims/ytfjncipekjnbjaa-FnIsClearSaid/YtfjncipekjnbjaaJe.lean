/-
  Chapter 6: what is in demand, by the model.
-/
import Derived.Test.YtfjncipekjnbjaaJd
namespace Go.Proofs.Ytfjncipekjnbjaa
open Go.RowKit

/-- What a call hands back: a slice in a block of its own, or none, that holds zs; what was there is as it was. -/
def OwnIs (w : World) (zs : List Int) (e : Ending) (w' : World) : Prop := ∃ A c, e = .returned (.slice A zs.length c) ∧ Own w' w.heap.size A c zs ∧ Below w.heap.size w w'

theorem calls_l {P : Program} {f : FuncId} {args : Array Value} {w : World} {n : Nat} {v : Value} (h : Calls P f args (w.drewN n) fun e w' => e = .returned v ∧ ∃ k, w' = (w.drewN n).drewN k) :
    Calls P f args (w.drewN n) fun e w'' => e = .returned v ∧ ∃ k, w'' = w.drewN k := h.mono fun _ _ ⟨he, k, hw⟩ => ⟨he, n + k, by rw [hw, World.drewN_drewN]⟩

set_option maxHeartbeats 1600000 in
theorem Sdemand_any (A B : Option Addr) (c d : Nat) (t p : List Int) (w : World) (h : Rd w A c t) (g : Rd w B d p) (hv : VT t) (hp : VP p) :
    Calls Try.prog 83 #[.slice A t.length c, .slice B p.length d] w (OwnIs w (dm t p)) := by
  have h8 := hv.1
  have HTB := Lib.hid (fun s (hs : s < 8) => hv.bd hs)
  have HPB := Lib.hid (fun s (hs : s < 8) => hp.bd hs)
  have HP := Lib.hid (fun s (hs : s < 8) w1 (g : Rd w1 B d p) => SpriceOf_any B d p s w1 g hp hs)
  have HS := Lib.hid (Ssurplus_any A B c d t p w h g hv hp)
  have HM := Lib.hid (suTo_bd hv hp (k := 8) (Nat.le_refl _))
  clear hv hp
  rw [h8] at HS ⊢
  go_enter Try.func83, Try.ntmps83
  go_wp2_with (go_at_call 80; refine HS.out.mono ?_; rintro e w1 ⟨rfl, n0, rfl⟩)
  have HO : Hid (Own ((w.drewN n0).alloc (.cells #[] 3)) w.heap.size (some ⟨w.heap.size, 0, none⟩) 0 (dmTo t p 0)) := Lib.hid (own_empty (w.drewN n0))
  have hb0 : Below w.heap.size w ((w.drewN n0).alloc (.cells #[] 3)) := (below_drewN' (Below.refl _ w) n0).alloc (by simp) _
  go_loopw [6, 7] (fun o i wr => ∃ (k m : Nat) (A1 : Option Addr) (c1 : Nat), k ≤ 8 ∧ o = .slice A1 m c1 ∧ i = .int .i64 (k : Int) ∧ Hid (m = (dmTo t p k).length) ∧ m ≤ 8 ∧ Hid (Own wr w.heap.size A1 c1 (dmTo t p k)) ∧ Below w.heap.size w wr) (fun _ i _ => 8 - (intOf i).toNat)
  case atStart => exact ⟨0, 0, _, 0, by omega, rfl, rfl, Lib.hid rfl, by omega, HO, hb0⟩
  case round =>
    obtain ⟨k, m, A1, c1, hk, rfl, rfl, HN, hm, HO, hb⟩ := hrel
    by_cases hlt : k < 8
    · obtain ⟨b, off, x, rfl, _, hx, hc⟩ := (h.below hb).at_ (k := k) (by omega)
      have hT := T_of hx.out
      have HPC := Lib.hid (fun (m : Nat) => calls_l (HP.out k hlt (wr.drewN m) ((g.below hb).drewN m)))
      have htb := HTB.out k hlt
      have hpb := HPB.out k hlt
      have hmb := HM.out
      rw [hT] at htb
      have hlf : lf t p k = x - pr p k := by unfold lf; rw [hT]
      have hsu : suTo t p 8 = su t p := rfl
      rw [hsu] at hmb
      have hkk := dmTo_len t p k
      obtain ⟨M, hM⟩ : ∃ M, M = su t p := ⟨_, rfl⟩
      obtain ⟨y, hy⟩ : ∃ y, y = pr p k := ⟨_, rfl⟩
      have HYE : x - y = M → Hid (dmTo t p (k + 1) = dmTo t p k ++ [(k : Int)]) := fun h => Lib.hid (dmTo_yes (by rw [hlf, ← hy, h, hM]))
      have HNO : ¬ x - y = M → Hid (dmTo t p (k + 1) = dmTo t p k) := fun h => Lib.hid (dmTo_no (by rw [hlf, ← hy, ← hM]; exact h))
      rw [← hy] at HPC hpb
      rw [← hM] at hmb ⊢
      have e1 : IntKind.i64.wrap (x - y) = x - y := IntWalk.i64_in _ (by omega)
      have hk8 : (k : Int) < 8 := by omega
      have hk0 : (0 : Int) ≤ (k : Int) := by omega
      have hk1 : k + 1 ≤ 8 := hlt
      have hmk : m ≤ k := by rw [HN.out]; exact hkk
      clear hy hM hx hT htb hpb hlf hsu hmb hkk
      by_cases he : x - y = M
      · have HT := HYE he
        have hq : (x - y == M) = true := by simp [he]
        clear he
        have HOL := Lib.hid (fun j => own_lit (wr.drewN j) [(k : Int)] (by simp))
        have HOA : Hid (∀ j, Own ((wr.drewN j).alloc (.cells #[.int .i64 (k : Int)] 3)) w.heap.size A1 c1 (dmTo t p k)) := Lib.hid (fun j => World.ownsRow.alloc (HO.out.drewN j) _)
        have hbA := fun j => (below_drewN' hb j).alloc hb.size (.cells #[.int .i64 (k : Int)] 3)
        have HBA := Lib.hid hbA
        clear HYE HNO HO hbA hlt
        go_wp2_with fail
        go_quiet ((go_at_call 122; exact HPC.out _))
        go_wp2_with (at_builtin; refine wpList_append_any rfl _ _ 24 Try.underlying24 rfl w.heap.size A1 c1 (dmTo t p k) m HN.out.symm rfl (HOA.out nq) _ _ [(k : Int)] 1 rfl rfl (HOL.out nq).rd (by omega) (HBA.out nq).size ?_; intro A4 c4 w4 o4 g4)
        have B4 := Own.grownBelow0 (HBA.out nq) (HOA.out nq) (HBA.out nq).size g4
        have HO4 : Hid (Own w4 w.heap.size A4 c4 (dmTo t p (k + 1))) := Lib.hid (by rw [HT.out]; exact o4)
        have HN4 : Hid (m + 1 = (dmTo t p (k + 1)).length) := Lib.hid (by rw [HT.out, List.length_append, ← HN.out]; rfl)
        go_wp2
        go_roundw
        case rel => exact ⟨k + 1, m + 1, A4, c4, hk1, rfl, by go_num, HN4, by omega, HO4, B4⟩
        case measure => simp [intOf]; omega
      · have HT := HNO he
        have hq : (x - y == M) = false := by simp [he]
        clear he
        have HO' : Hid (∀ j, Own (wr.drewN j) w.heap.size A1 c1 (dmTo t p (k + 1))) := Lib.hid (fun j => by rw [HT.out]; exact HO.out.drewN j)
        have HN' : Hid (m = (dmTo t p (k + 1)).length) := Lib.hid (by rw [HT.out]; exact HN.out)
        clear HYE HNO HO hlt HN
        go_wp2_with fail
        go_quiet ((go_at_call 122; exact HPC.out _))
        go_wp2
        go_roundw
        case rel => exact ⟨k + 1, m, A1, c1, hk1, rfl, by go_num, HN', hm, Lib.hid (HO'.out nq), below_drewN' hb nq⟩
        case measure => simp [intOf]; omega
    · obtain rfl : k = 8 := by omega
      have HN' : Hid (m = (dm t p).length) := HN
      go_wp2
      go_ret
      exact ⟨A1, c1, by rw [← HN'.out]; rfl, HO.out, hb⟩

set_option maxHeartbeats 800000 in
theorem SDemandAt_any (A B : Option Addr) (c d : Nat) (t p : List Int) (w : World) (h : Rd w A c t) (g : Rd w B d p) (hl : t.length ≤ 1099511627776) (gl : p.length ≤ 1099511627776) :
    Calls Try.prog 26 #[.slice A t.length c, .slice B p.length d] w (OwnIs w (dmB t p)) := by
  have HV := Lib.hid (SvalidTable_any A c t w h hl)
  have HQ := Lib.hid (fun w1 (g : Rd w1 B d p) => SvalidPrices_any B d p w1 g gl)
  rcases hv : vt t with _ | _
  · have HE : Hid (dmB t p = []) := Lib.hid (by unfold dmB; rw [hv]; rfl)
    rw [hv] at HV
    clear hv
    go_enter Try.func26, Try.ntmps26
    go_wp2_with (go_at_call 71; refine HV.out.mono ?_; rintro e w1 ⟨rfl, n, rfl⟩)
    go_ret
    exact ⟨none, 0, by rw [HE.out]; rfl, by rw [HE.out]; exact own_none _ _, below_drewN' (Below.refl _ _) n⟩
  · rw [hv] at HV
    rcases hp : vp p with _ | _
    · have HE : Hid (dmB t p = []) := Lib.hid (by unfold dmB; rw [hv, hp]; rfl)
      rw [hp] at HQ
      clear hv hp
      go_enter Try.func26, Try.ntmps26
      go_wp2_with (first | (go_at_call 71; refine HV.out.mono ?_; rintro e w1 ⟨rfl, n, rfl⟩) | (go_at_call 79; refine (HQ.out _ (g.drewN n)).mono ?_; rintro e w1 ⟨rfl, m, rfl⟩))
      go_ret
      exact ⟨none, 0, by rw [HE.out]; rfl, by rw [HE.out]; exact own_none _ _, below_drewN' (Below.refl _ _) (n + m)⟩
    · have HE : Hid (dmB t p = dm t p) := Lib.hid (by unfold dmB; rw [hv, hp]; rfl)
      have HS := Lib.hid (fun w1 (h : Rd w1 A c t) (g : Rd w1 B d p) => Sdemand_any A B c d t p w1 h g (vt_iff.1 hv) (vp_iff.1 hp))
      rw [hp] at HQ
      clear hv hp
      rw [HE.out]
      go_enter Try.func26, Try.ntmps26
      go_wp2_with (first | (go_at_call 71; refine HV.out.mono ?_; rintro e w1 ⟨rfl, n, rfl⟩) | (go_at_call 79; refine (HQ.out _ (g.drewN n)).mono ?_; rintro e w1 ⟨rfl, m, rfl⟩) | (go_at_call 83; refine (HS.out _ (h.drewN (n + m)) (g.drewN (n + m))).mono ?_; rintro e w1 ⟨A1, c1, rfl, o1, b1⟩))
      go_ret
      exact ⟨A1, c1, rfl, o1, (below_drewN' (Below.refl _ _) (n + m)).trans b1⟩

end Go.Proofs.Ytfjncipekjnbjaa
