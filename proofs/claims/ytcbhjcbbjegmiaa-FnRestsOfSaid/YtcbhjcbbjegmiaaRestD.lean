/-
  Chapter 1, the model: the contract of IsTrue.
-/
import Derived.Test.YtcbhjcbbjegmiaaRestC
namespace Go.Proofs.Ytcbhjcbbjegmiaa
open Go.RowKit

/-- The numbers that a slice value reads as. -/
def readInts (w : World) : Value → List Int
  | .slice (some ⟨b, off, _⟩) len _ => (List.range len).map (fun k => match w.cell? ⟨b, off + k, none⟩ with
    | some (.int _ x) => x
    | _ => 0)
  | _ => []
theorem readInts_own {w : World} {B g c : Nat} {zs : List Int} (h : Own w B (some ⟨g, 0, none⟩) c zs) : readInts w (.slice (some ⟨g, 0, none⟩) zs.length c) = zs := by
  apply List.ext_getElem
  · simp [readInts]
  · intro i h1 h2
    have := h.cell (i := i) (List.getElem?_eq_getElem h2)
    simp [readInts, this]
/-- How many rounds are still to come. -/
def roundsLeft (top : Int) (w : World) (v : Value) : Nat := if readInts w v = [] then 0 else leftF (readInts w v) top + 1
theorem roundsLeft_own {w : World} {B g c : Nat} {zs : List Int} {top : Int} (h : Own w B (some ⟨g, 0, none⟩) c zs) (h1 : 1 ≤ zs.length) : roundsLeft top w (.slice (some ⟨g, 0, none⟩) zs.length c) = leftF zs top + 1 := by
  unfold roundsLeft
  rw [readInts_own h, if_neg (by intro e; rw [e] at h1; simp at h1)]
theorem roundsLeft_nil (top : Int) (w : World) : roundsLeft top w (.slice none 0 0) = 0 := by simp [roundsLeft, readInts]

/-- Whether by the kind no bid is better than the value, at any bids. -/
def isTrueF (kd n top : Nat) : Bool := (allF top (List.replicate n 0)).all (fun b => restF kd b b (top + 1))
/-- Bids that may come. -/
def Fit (top n : Nat) (ys : List Int) : Prop := ys.length = n ∧ ∀ x ∈ ys, 0 ≤ x ∧ x ≤ (top : Int)
theorem Fit.zero (top n : Nat) : Fit top n (List.replicate n 0) := ⟨by simp, fun x hx => by rw [List.eq_of_mem_replicate hx]; omega⟩
theorem Fit.next {top n : Nat} {ys zs : List Int} (h : Fit top n ys) (hn : nextF ys top = some zs) : Fit top n zs ∧ leftF zs top < leftF ys top := by
  obtain ⟨h1, h2, h3⟩ := leftF_lt (by omega) h.2 hn
  exact ⟨⟨by rw [h3]; exact h.1, h2⟩, h1⟩
theorem Fit.small {top n : Nat} {ys : List Int} (h : Fit top n ys) (ht : top ≤ 1048576) : Small ys := fun x hx => by have := h.2 x hx; omega

set_option maxHeartbeats 2000000 in
theorem SIsTrue_yes (s : ByteArray) (kd n top : Nat) (w : World) (hk : KindIs s kd) (hn1 : 1 ≤ n) (hn3 : n ≤ 3) (ht : top ≤ 5) :
    Calls Try.prog 30 #[.string s, .int .i64 n, .int .i64 top] w fun e w' => e = .returned (.bool (isTrueF kd n top)) ∧ Below w.heap.size w w' := by
  obtain ⟨res, hres⟩ : ∃ r, r = isTrueF kd n top := ⟨_, rfl⟩
  rw [← hres]
  have HR := Lib.hid hres
  have hn2 : inR (n : Int) 1 3 = true := by rw [inR_true]; omega
  have ht2 : inR (top : Int) 0 5 = true := by rw [inR_true]; omega
  clear hres
  go_enter Try.func30, Try.ntmps30
  go_wp2_with (first
    | (go_at_call 49; refine (validKind_yes s kd _ hk).mono ?_; rintro e w1 ⟨rfl, rfl⟩)
    | (go_at_call 51; refine (inRange_any _ _ _ _).mono ?_; rintro e w1 ⟨rfl, rfl⟩)
    | (at_make; refine wpList_make_ints rfl _ _ rfl w.heap.size n rfl rfl (by omega) (Nat.le_refl _) ?_; intro w0 ho hb))
  clear hn2 ht2
  go_loopw [7] (fun v wr => (∃ g c ys, v = .slice (some ⟨g, 0, none⟩) ys.length c ∧ Own wr w.heap.size (some ⟨g, 0, none⟩) c ys ∧ Below w.heap.size w wr ∧ Hid (Fit top n ys) ∧ Hid (res = (allF top ys).all (fun b => restF kd b b (top + 1)))) ∨ (v = .slice none 0 0 ∧ Below w.heap.size w wr ∧ Hid (res = true)))
    (fun v wr => roundsLeft top wr v)
  case atStart => exact .inl ⟨_, _, List.replicate n 0, by simp, ho, hb, Lib.hid (Fit.zero top n), HR⟩
  case round =>
    rcases hrel with ⟨g, c, ys, rfl, ho, hb, HF, HE⟩ | ⟨rfl, hb, HE⟩
    · have hyl := HF.out.1
      have hy1 : 1 ≤ ys.length := by omega
      have hy2 : ys.length ≤ 1048576 := by omega
      have hpos : (0 : Int) < ys.length := by omega
      have HL := Lib.hid (roundsLeft_own (top := top) ho hy1)
      have HS := Lib.hid (HF.out.small (by omega))
      clear hyl
      obtain ⟨ok, hok⟩ : ∃ ok, ok = restF kd ys ys (top + 1) := ⟨_, rfl⟩
      have HO := Lib.hid hok
      have HH := Lib.hid (honest_any s kd (some ⟨g, 0, none⟩) c ys top wr hk ho.rd hy1 hy2 (by omega) HS.out)
      rw [← hok] at HH
      clear hok
      cases ok with
      | false =>
        have HX : Hid (res = false) := Lib.hid (by
          rw [HE.out]
          cases hn : nextF ys top with
          | none => rw [allF_last hn, List.all_cons, ← HO.out]; rfl
          | some zs => rw [allF_next (by omega) HF.out.2 hn, List.all_cons, ← HO.out]; rfl)
        go_wp2_with (go_at_call 66; refine HH.out.mono ?_; rintro e w2 ⟨rfl, b2⟩)
        go_ret
        exact ⟨by rw [HX.out]; rfl, hb.trans (b2.mono hb.size)⟩
      | true =>
        go_wp2_with fail
        refine HH.out.mono ?_
        rintro e w2 ⟨rfl, b2⟩
        have B2 := hb.trans (b2.mono hb.size)
        have o2 := ho.below b2
        go_wp2_with fail
        refine (next_any (some ⟨g, 0, none⟩) c ys top w2 o2.rd hy2 (by omega) (by omega) HF.out.2).mono ?_
        rintro e w3 (⟨zs, g3, c3, HN, rfl, o3, b3⟩ | ⟨HN, rfl, b3⟩)
        · obtain ⟨hf3, hl3⟩ := HF.out.next HN
          have HX : Hid (res = (allF top zs).all (fun b => restF kd b b (top + 1))) := Lib.hid (by
            rw [HE.out, allF_next (by omega) HF.out.2 HN, List.all_cons, ← HO.out]; rfl)
          have HL3 := Lib.hid hl3
          have HF3 := Lib.hid hf3
          have B3 := B2.trans (b3.mono B2.size)
          have o3' := o3.base B2.size
          clear hf3 hl3 HN o3
          go_wp2
          go_roundw
          case rel => exact .inl ⟨g3, c3, zs, rfl, o3', B3, HF3, HX⟩
          case measure =>
            rw [HL.out, roundsLeft_own o3' (by have := HF3.out.1; omega)]
            have := HL3.out
            omega
        · have HX : Hid (res = true) := Lib.hid (by rw [HE.out, allF_last HN, List.all_cons, ← HO.out]; rfl)
          have B3 := B2.trans (b3.mono B2.size)
          clear HN
          go_wp2
          go_roundw
          case rel => exact .inr ⟨rfl, B3, HX⟩
          case measure => rw [HL.out, roundsLeft_nil]; omega
    · go_wp2
      go_ret
      exact ⟨by rw [HE.out]; rfl, hb⟩

end Go.Proofs.Ytcbhjcbbjegmiaa
