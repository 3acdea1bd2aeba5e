/-
  Chapter 4, the program: texts of tables: the contracts of lettersOf and ShowTable.
-/
import Derived.Test.YtdbpjlconbifpaaDoorYa
import Derived.Test.YtdbpjlconbifpaaDoorTb
import Derived.Test.YtdbpjlconbifpaaDoorWf
import Derived.Test.YtdbpjlconbifpaaDoorShelf
namespace Go.Proofs.YtdbpjlconbifpaaDoor
open Go.RowKit Go.Lib

def iOf : Value → Int
  | .int _ q => q
  | _ => 0
/-- The letters of the first k of some things. -/
def ltrs (xs : List Int) : List UInt8 := xs.map (fun x => UInt8.ofNat (97 + x.toNat))
theorem ltrs_th {s : Nat} (hs : s < 8) : ltrs (th s) = lw s := by
  have : ∀ s, s < 8 → ltrs (th s) = lw s := by decide
  exact this s hs
theorem ltrs_step {xs : List Int} {k : Nat} {x : Int} (h : xs[k]? = some x) : ltrs (xs.take (k + 1)) = ltrs (xs.take k) ++ [UInt8.ofNat (97 + x.toNat)] := by
  unfold ltrs; rw [List.take_add_one, h]; simp
theorem th_mem {s : Nat} (hs : s < 8) : ∀ x ∈ th s, 0 ≤ x ∧ x < 3 := by
  have : ∀ s, s < 8 → ∀ x ∈ th s, 0 ≤ x ∧ x < 3 := by decide
  exact this s hs

set_option maxHeartbeats 1000000 in
theorem lettersOf_any (s : Nat) (hs : s < 8) (w : World) :
    Calls Tryd.prog 12 #[.int .i64 (s : Int)] w fun e w' => e = .returned (.string (sB (lw s))) ∧ Below w.heap.size w w' := by
  have HT := Lib.hid (thingsIn_any s hs w)
  have HL := Lib.hid (ltrs_th hs)
  have HM := Lib.hid (th_mem hs)
  have hl3 := thTo_len s 3
  have HL3 : Hid ((th s).length ≤ 3) := Lib.hid hl3
  clear hs hl3
  go_enter Tryd.func12, Tryd.ntmps12
  go_wp2_with fail
  refine HT.out.mono ?_
  rintro e w1 ⟨A, c, rfl, o1, b1⟩
  have HO := Lib.hid o1
  obtain ⟨xs, hxs⟩ : ∃ xs, xs = th s := ⟨_, rfl⟩
  rw [← hxs] at HO HL HM HL3 ⊢
  clear o1 hxs HT
  go_wp2_with fail
  go_loopw [3, 9] (fun o i wr => ∃ (j n : Nat) (l : List UInt8), j ≤ xs.length ∧ i = .int .i64 j ∧ o = .string (sB l) ∧ Hid (l = ltrs (xs.take j)) ∧ wr = w1.drewN n) (fun _ i _ => xs.length - (iOf i).toNat)
  case atStart => exact ⟨0, 0, [], Nat.zero_le _, rfl, rfl, Lib.hid rfl, rfl⟩
  case round =>
    obtain ⟨j, n, l, hj, rfl, rfl, HLJ, rfl⟩ := hrel
    by_cases hlt : j < xs.length
    · obtain ⟨b, off, x, rfl, _, hx, hcx⟩ := HO.out.rd.at_ hlt
      obtain ⟨hx0, hx3⟩ := HM.out x (List.mem_of_getElem? hx.out)
      obtain ⟨q, rfl⟩ := Int.eq_ofNat_of_zero_le hx0
      have hq3 : q < 3 := by omega
      have hll : l.length ≤ 3 := by
        rw [HLJ.out]; unfold ltrs; rw [List.length_map, List.length_take]; have := HL3.out; omega
      have hr : ¬ 9223372036854775807 < (sB l).size + (sB [UInt8.ofNat (97 + q)]).size := by rw [sB_size, sB_size]; simp; omega
      have hex := letter_at hq3
      have HAP := Lib.hid (sB_append l [UInt8.ofNat (97 + q)])
      have HS : Hid (l ++ [UInt8.ofNat (97 + q)] = ltrs (xs.take (j + 1))) := Lib.hid (by rw [ltrs_step hx.out, ← HLJ.out]; rfl)
      have e1 : IntKind.i64.wrap ((q : Int) + 1) = (q : Int) + 1 := IntWalk.i64_in _ (by omega)
      have q1 : (q : Int) ≤ (q : Int) + 1 := by omega
      have q2 : (q : Int) + 1 ≤ 3 := by omega
      have q3 : (0 : Int) ≤ (q : Int) + 1 := by omega
      have hj3 : j < 3 := by have := HL3.out; omega
      have hjw : IntKind.i64.wrap ((j : Int) + 1) = (j : Int) + 1 := IntWalk.i64_in _ (by omega)
      clear hx hll
      go_wp2
      go_roundw
      case rel => exact ⟨j + 1, _, _, by omega, by go_num, by rw [← HAP.out]; simp, HS, rfl⟩
      case measure => simp [iOf]; omega
    · obtain rfl : j = xs.length := by omega
      have HE : Hid (l = lw s) := Lib.hid (by rw [HLJ.out, List.take_length, HL.out])
      have HB := Lib.hid (below_drewN' b1 n)
      go_wp2
      go_ret
      exact ⟨by rw [← HE.out]; rfl, HB.out⟩


theorem ownW_none (w : World) (B : Nat) : OwnW w B (.slice none 0 0) [] := ⟨by simp, .inl ⟨rfl, rfl⟩⟩
theorem word_eq (s v : Nat) : sB (lw s) ++ ({ data := #[58] } : ByteArray) ++ sB (decDigits v) = sB (word (s, v)) := by
  show sB (lw s) ++ sB [58] ++ sB (decDigits v) = _
  rw [sB_append, sB_append]; simp [word]

/-- Join of none. -/
theorem Join_none (w : World) : Calls Tryd.prog 14 #[.slice none 0 0, .string ({ data := #[32, 120, 111, 114, 32] } : ByteArray)] w fun e w' => e = .returned (.string (sB [])) ∧ w = w' := by
  go_enter Tryd.func14, Tryd.ntmps14
  go_wp2
  go_ret
  exact ⟨rfl, rfl⟩

theorem textX_text (os : Offers) : textX os = text true os := by
  unfold textX
  split
  · rename_i h; rw [h]; rfl
  · rfl
theorem sB_data (ws : List (List UInt8)) : (ws.map sB).map (fun s : ByteArray => s.data.toList) = ws := by
  rw [List.map_map]
  have : (fun s : ByteArray => s.data.toList) ∘ sB = id := by funext l; simp [sB]
  rw [this, List.map_id]
/-- Join of words in a block of the call's own. -/
theorem Join_some (w : World) (B g c : Nat) (ws : List (List UInt8)) (h : OwnW w B (.slice (some ⟨g, 0, none⟩) ws.length c) ws) (hl : (join ws [32, 120, 111, 114, 32]).length ≤ 140737488355328) (h2 : ws.length ≤ 140737488355328) :
    Calls Tryd.prog 14 #[.slice (some ⟨g, 0, none⟩) ws.length c, .string ({ data := #[32, 120, 111, 114, 32] } : ByteArray)] w fun e w' => e = .returned (.string (sB (join ws [32, 120, 111, 114, 32]))) ∧ Below w.heap.size w w' := by
  have hcap : ws.length ≤ c := by
    rcases h.2 with ⟨h0, _⟩ | ⟨g', cap, cur, hv, _, _, h1, _⟩
    · cases h0
    · injection hv with _ _ hc
      subst hc
      exact h1
  have hj := Tryd.strings_Join g 0 c (ws.map sB) { data := #[32, 120, 111, 114, 32] } w (fun j x hx => by
    rw [List.getElem?_map] at hx
    obtain ⟨l, hl, rfl⟩ := Option.map_eq_some_iff.1 hx
    have hlt := (List.getElem?_eq_some_iff.1 hl).1
    rw [Nat.zero_add, World.ownsRow.cellAt h j (by omega), List.getElem?_map, hl]
    rfl) (World.ownsRow.lt h g rfl).2 (by rw [List.length_map]; exact h2) (by rw [List.length_map]; exact hcap) (by rw [sB_data]; exact hl)
  rw [List.length_map, sB_data] at hj
  exact hj

set_option maxHeartbeats 2000000 in
theorem ShowTable_yes (A : Option Addr) (c : Nat) (t : List Int) (w : World) (h : Rd w A c t) (hv : VT t) :
    Calls Tryd.prog 6 #[.slice A 8 c] w fun e w' => e = .returned (.string (sB (textX (shF t)))) ∧ Below w.heap.size w w' := by
  have HVT := Lib.hid (ValidTable_any A c t w h (by have := hv.1; omega))
  rw [vt_true hv, hv.1] at HVT
  have HV := Lib.hid hv
  have HL8 := Lib.hid hv.1
  obtain ⟨b, off, rfl⟩ := h.some_8 hv.1
  have HR := Lib.hid (fun (W : World) (hW : Below w.heap.size w W) => h.below hW)
  clear hv h
  go_enter Tryd.func6, Tryd.ntmps6
  go_wp2_with fail
  refine HVT.out.mono ?_
  rintro e w1 ⟨rfl, b1⟩
  go_wp2_with fail
  go_loopw [3, 11] (fun o i wr => ∃ (s : Nat) (o0 : Value), s ≤ 8 ∧ i = .int .i64 s ∧ o = o0 ∧ Hid (OwnW wr w.heap.size o0 ((shTo t s).map word)) ∧ Below w.heap.size w wr) (fun _ i _ => 8 - (iOf i).toNat)
  case atStart => exact ⟨0, _, by omega, rfl, rfl, Lib.hid (ownW_none _ _), b1⟩
  case round =>
    obtain ⟨s, o0, hs8, rfl, ho, HO, hb⟩ := hrel
    obtain rfl := ho.symm
    by_cases hlt : s < 8
    · obtain ⟨b3, o3, x, hA, _, hx, hcx⟩ := (HR.out wr hb).at_ (k := s) (by rw [HL8.out]; exact hlt)
      cases hA
      have hxe := T_of hx.out
      have hxb := (HV.out.toI hlt).1
      rw [hxe] at hxb
      have HBL := Lib.hid (bestLess_any (some ⟨b, off, none⟩) c t s wr (HR.out wr hb) HL8.out hlt)
      have HLE := Lib.hid (fun (W : World) => lettersOf_any s hlt W)
      obtain ⟨v, rfl⟩ := Int.eq_ofNat_of_zero_le hxb.1
      have hv30 : v ≤ 30 := by omega
      have HIT := Lib.hid (fun (W : World) => Tryd.strconv_Itoa_small v (by omega) W)
      have hsd : decide ((s : Int) < 8) = true := by simp; omega
      have hs0 : (0 : Int) ≤ (s : Int) := by omega
      have hll : (shTo t s).length ≤ 8 := Nat.le_trans (shTo_le s) hs8
      obtain ⟨z, hz⟩ : ∃ z, z = bl t s := ⟨_, rfl⟩
      rw [← hz] at HBL
      by_cases hzx : z < (v : Int)
      · have HS : Hid ((shTo t s).map word ++ [word (s, v)] = (shTo t (s + 1)).map word) := Lib.hid (by simp only [shTo]; rw [if_pos (by rw [← hz, hxe]; exact hzx), hxe]; simp)
        have hsw : ∀ s, s < 8 → (lw s).length ≤ 3 := by decide
        have hw3 := hsw s hlt
        have hd2 : (decDigits v).length ≤ 2 := by rw [dec_small hv30]; unfold dec30; split <;> simp
        have r2 : ¬ 9223372036854775807 < (sB (lw s)).size + 1 := by rw [sB_size]; omega
        have r3 : ¬ 9223372036854775807 < (sB (lw s)).size + 1 + (sB (decDigits v)).size := by rw [sB_size, sB_size]; omega
        clear hx hxe hxb hz hsw
        go_wp2_with fail
        refine HBL.out.mono ?_
        rintro e w2 ⟨rfl, b2⟩
        have B2 := hb.trans (b2.mono hb.size)
        have HO2 := Lib.hid (HO.out.below b2)
        clear b2
        go_wp2_with fail
        refine (HLE.out w2).mono ?_
        rintro e w3 ⟨rfl, b3⟩
        have B3 := B2.trans (b3.mono B2.size)
        have HO3 := Lib.hid (HO2.out.below b3)
        clear b3
        go_wp2_with fail
        refine (HIT.out w3).mono ?_
        rintro e w4 ⟨rfl, rfl⟩
        have hal := (Below.refl w4.heap.size w4).alloc (Nat.le_refl _) (.cells #[.string (sB (lw s) ++ ({ data := #[58] } : ByteArray) ++ sB (decDigits v))] 9)
        have HO4 := Lib.hid (HO3.out.below hal)
        have B4 := B3.trans (hal.mono B3.size)
        have hcw : (w4.alloc (.cells #[.string (sB (lw s) ++ ({ data := #[58] } : ByteArray) ++ sB (decDigits v))] 9)).cell? ⟨w4.heap.size, 0, none⟩ = some (.string (sB (word (s, v)))) := by rw [← word_eq]; simp
        have HCW := Lib.hid hcw
        have hml : ((shTo t s).map word).length ≤ 1099511627776 := by rw [List.length_map]; omega
        have hbs := B4.size
        clear hal hcw B3
        go_wp2_with (at_builtin; refine wpList_append_word rfl _ _ rfl w w.heap.size o0 ((shTo t s).map word) rfl HO4.out w4.heap.size (word (s, v)) rfl HCW.out hml hbs B4 ?_; intro v5 w5 o5 B5)
        have HO5 : Hid (OwnW w5 w.heap.size v5 ((shTo t (s + 1)).map word)) := Lib.hid (by rw [← HS.out]; exact o5)
        clear o5
        go_wp2
        go_roundw
        case rel => exact ⟨s + 1, _, by omega, by go_num, rfl, HO5, B5⟩
        case measure => simp [iOf]; omega
      · have HS : Hid ((shTo t s).map word = (shTo t (s + 1)).map word) := Lib.hid (by simp only [shTo]; rw [if_neg (by rw [← hz, hxe]; exact hzx)])
        have hg : decide (z < (v : Int)) = false := by simp; omega
        clear hx hxe hxb hz
        go_wp2_with fail
        refine HBL.out.mono ?_
        rintro e w2 ⟨rfl, b2⟩
        have B2 := hb.trans (b2.mono hb.size)
        have HO2 : Hid (OwnW w2 w.heap.size o0 ((shTo t (s + 1)).map word)) := Lib.hid (by rw [← HS.out]; exact HO.out.below b2)
        clear b2
        go_wp2
        go_roundw
        case rel => exact ⟨s + 1, _, by omega, by go_num, rfl, HO2, B2⟩
        case measure => simp [iOf]; omega
    · obtain rfl : s = 8 := by omega
      rcases HO.out.shape with ⟨rfl, he⟩ | ⟨g, c2, rfl⟩
      · have hsn : shF t = [] := by unfold shF; simpa using he
        have HE : Hid (textX (shF t) = []) := Lib.hid (by rw [hsn]; rfl)
        have HJN := Lib.hid (fun (W : World) => Join_none W)
        clear he hsn
        go_wp2_with fail
        refine (HJN.out _).mono ?_
        rintro e w2 ⟨rfl, rfl⟩
        go_wp2
        go_ret
        exact ⟨by rw [HE.out]; rfl, hb⟩
      · have hJ := Join_some wr w.heap.size g c2 ((shTo t 8).map word) HO.out (by
          have h1 := (textX_len (os := shTo t 8) _ rfl (shTo_bd HV.out (by omega))).1
          have h2 := shTo_le (t := t) 8
          rw [textX_text] at h1
          unfold text at h1
          have h3 : sepW true = [32, 120, 111, 114, 32] := rfl
          rw [h3] at h1
          omega) (by rw [List.length_map]; have := shTo_le (t := t) 8; omega)
        rw [List.length_map] at hJ
        have HJ := Lib.hid hJ
        have HE : Hid (join ((shTo t 8).map word) [32, 120, 111, 114, 32] = textX (shF t)) := Lib.hid (by rw [textX_text]; rfl)
        clear hJ
        go_wp2_with fail
        refine HJ.out.mono ?_
        rintro e w2 ⟨rfl, b2⟩
        have HB2 := Lib.hid (hb.trans (b2.mono hb.size))
        clear b2
        go_wp2
        go_ret
        exact ⟨by rw [← HE.out]; rfl, HB2.out⟩


theorem ShowTable_any (A : Option Addr) (c : Nat) (t : List Int) (w : World) (h : Rd w A c t) (hl : t.length ≤ 1099511627776) :
    Calls Tryd.prog 6 #[.slice A t.length c] w fun e w' => e = .returned (.string (sB (stF t))) ∧ Below w.heap.size w w' := by
  by_cases hv : VT t
  · rw [show stF t = textX (shF t) from if_pos hv, hv.1]
    exact ShowTable_yes A c t w h hv
  · have HVT := Lib.hid (ValidTable_any A c t w h hl)
    rw [vt_false hv] at HVT
    rw [show stF t = [] from if_neg hv]
    clear hv h hl
    go_enter Tryd.func6, Tryd.ntmps6
    go_wp2_with fail
    refine HVT.out.mono ?_
    rintro e w1 ⟨rfl, b1⟩
    go_wp2
    go_ret
    exact ⟨rfl, b1⟩

end Go.Proofs.YtdbpjlconbifpaaDoor
