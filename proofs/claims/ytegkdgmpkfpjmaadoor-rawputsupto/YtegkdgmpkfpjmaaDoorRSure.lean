/- What is proved here: the document's Sure of layer 10: how many runes at the beginning are surely content. -/
import Derived.OwnWalk
import Derived.Test.YtegkdgmpkfpjmaaDoorBun15
namespace Go.Proofs.YtegkdgmpkfpjmaaDoor.R
open Go.RowKit Go.Shelf Go.Proofs.YtegkdgmpkfpjmaaDoor.U Go.Proofs.YtegkdgmpkfpjmaaDoor.N

theorem plain_held (nm : List Int) : ∀ (l : List Int) (s : St), s.p = 1 → s.b = 0 → s.h = [] → (s.run nm l).h = []
  | [], _, _, _, h => h
  | r :: l, s, h1, h2, h3 => by
    rw [run_cons]
    have : s.next nm r = { s.tell r 0 with n := 0 } := by
      unfold St.next St.step St.begin
      rw [if_neg (by omega), if_pos h2, if_neg (by omega), if_neg (by omega), if_neg (by omega)]
    rw [this]
    exact plain_held nm l _ h1 rfl rfl
theorem hasI_drop {w : World} {b off cap n : Nat} {zs : List Int} (h : HasR w (some ⟨b, off, none⟩) n cap zs) (k : Nat) (hk : k < zs.length) : HasR w (some ⟨b, off + k, none⟩) (n - k) (cap - k) (zs.drop k) := by
  have hn := hasR_len h
  rcases h with ⟨e, _⟩ | ⟨hp, b', off', cap', e, hcap, hx⟩
  · subst e; simp at hk
  · simp only [Value.slice.injEq, Option.some.injEq, Addr.mk.injEq, and_true] at e
    obtain ⟨⟨rfl, rfl⟩, _, rfl⟩ := e
    have hl : (zs.drop k).length = zs.length - k := by simp
    refine .inr ⟨by omega, b, off + k, cap - k, by rw [hl, hn], by omega, fun j hj => ?_⟩
    rw [hl] at hj
    rw [show zAt (zs.drop k) j = zAt zs (k + j) by simp [zAt], Nat.add_assoc]
    exact hx (k + j) (by omega)
set_option maxRecDepth 100000 in
set_option maxHeartbeats 4000000 in
/-- **The document's Sure**, of a content that has not ended. -/
theorem sure_calls (l : List UInt8) (hw : whZ l ≠ 0) (a : Option Addr) (n cap : Nat) (zs : List Int) (w : World) (hI : HasR w a n cap zs) (hz : ∀ z ∈ zs, -2147483648 ≤ z ∧ z ≤ 2147483647) (hl : zs.length ≤ 10000000) (h6 : ((s0 (p0 l)).run (R.zs l) zs).p ≠ 6) :
    Calls Tryd.prog 21 #[.string ⟨l.toArray⟩, .slice a n cap] w fun e w' => e = .returned (.int .i64 (sureN (R.zs l) (p0 l) zs)) ∧ Below w.heap.size w w' := by
  have HWH := hid_of (rwhere_calls l w)
  obtain rfl := hasR_len hI
  by_cases h4 : whZ l = 4
  · rw [h4] at HWH
    have hp1 : p0 l = 1 := by unfold p0; rw [h4]; rfl
    have hs : sureN (R.zs l) (p0 l) zs = zs.length := by unfold sureN; rw [hp1, plain_held (R.zs l) zs (s0 1) rfl rfl rfl]; rfl
    rw [hs]
    clear hI hz hw h4 hp1 hs h6
    go_enter Tryd.func21, Tryd.ntmps21
    go_wp2_with fail
    (go_at_call 11; refine HWH.out.mono ?_; rintro e w1 ⟨rfl, hb1⟩)
    go_wp2_with fail
    go_ret
    exact ⟨rfl, hb1⟩
  · have hp1 : p0 l ≠ 1 := by unfold p0; rw [if_neg h4]; split <;> omega
    have hne4 : ((whZ l : Int) == 4) = false := by simp; omega
    have HSR := hid_of (fun k hk => sure_right hw hp1 zs h6 k hk)
    have hln := wh_len l hw
    have HI := hid_of hI
    have HZR := hid_of hz
    have HW0 := hid_of hw
    have HEND : Hid (∀ W a' c' ys, HasR W a' ys.length c' ys → (∀ z ∈ ys, -2147483648 ≤ z ∧ z ≤ 2147483647) → ys.length ≤ 1000000000 → Calls Tryd.prog 19 #[.string ⟨l.toArray⟩, .slice a' ys.length c'] W fun e w' => e = .returned (endV (refR (R.zs l) (p0 l) ys) ys.length) ∧ Below W.heap.size W w') := fun W a' c' ys h1 h2 h3 => rend_calls l hw a' ys.length c' ys W h1 h2 h3
    have hsl : sureN (R.zs l) (p0 l) zs ≤ zs.length := by unfold sureN; omega
    obtain ⟨A, hA⟩ : ∃ A, sureN (R.zs l) (p0 l) zs = A := ⟨_, rfl⟩
    rw [hA] at HSR hsl ⊢
    have a1 : (⟨#[60, 47]⟩ : ByteArray) ++ ⟨l.toArray⟩ = ⟨([60, 47] ++ l).toArray⟩ := str_add [60, 47] l
    have a2 : (⟨([60, 47] ++ l).toArray⟩ : ByteArray) ++ ⟨#[62]⟩ = ⟨(endB l).toArray⟩ := str_add ([60, 47] ++ l) [62]
    have sl := arr_size l
    have s1 : (⟨([60, 47] ++ l).toArray⟩ : ByteArray).size = l.length + 2 := by rw [arr_size]; simp
    have s2 : (⟨(endB l).toArray⟩ : ByteArray).size = (endB l).length := arr_size _
    have hel : (endB l).length = l.length + 3 := by simp
    have HEL := hid_of hel
    have helb : (endB l).length ≤ 12 := by omega
    obtain ⟨eb, heb⟩ : ∃ eb, endB l = eb := ⟨_, rfl⟩
    have HEB := hid_of heb
    rw [heb] at a2 s2 helb HEL
    obtain ⟨x1, hx1⟩ : ∃ x1 : ByteArray, ⟨([60, 47] ++ l).toArray⟩ = x1 := ⟨_, rfl⟩
    rw [hx1] at a1 a2 s1
    clear hI hz hA hx1 hel heb h6
    obtain ⟨wz, hwz⟩ : ∃ wz, whZ l = wz := ⟨_, rfl⟩
    rw [hwz] at HWH hne4
    clear hw h4 hwz
    go_enter Tryd.func21, Tryd.ntmps21
    go_wp2_with fail
    (go_at_call 11; refine HWH.out.mono ?_; rintro e w1 ⟨rfl, hb1⟩)
    go_wp2_with fail
    go_loopw [18] (fun i wr => ∃ k : Nat, k ≤ zs.length ∧ i = .int .i64 k ∧ Hid (k ≤ A) ∧ Below w.heap.size w wr) (fun i _ => zs.length - (intOf i).toNat)
    case atStart => exact ⟨0, by omega, rfl, Nat.zero_le _, hb1⟩
    case round =>
      obtain ⟨k, hk, rfl, hkA, hB⟩ := hrel
      by_cases hlt : k < zs.length
      · obtain ⟨b, off, hab, hc⟩ := hasR_cell HI.out k hlt
        subst hab
        have cz : wr.cell? ⟨b, off + k, none⟩ = some (.int .i32 (zAt zs k)) := (hB.cell (p := ⟨b, off + k, none⟩) (cell_lt (hc k hlt))).trans (hc k hlt)
        have hcap := hasR_cap HI.out (by omega)
        have HS := hid_of (HSR.out k hlt)
        have HNX : Hid (k ≠ A → k + 1 ≤ A) := fun h => by have := hkA.out; omega
        have hzg : zs.getD k 0 = zAt zs k := by simp [zAt]
        rw [hzg] at HS
        clear hc hzg
        generalize zAt zs k = z at *
        by_cases h60 : z = 60
        · have n60 : (z != 60) = false := by rw [h60]; rfl
          have HZ := hid_of h60
          clear h60
          have hIk := hasI_drop (HI.out.below hB) k hlt
          have hcv := conv_runes hIk
          obtain ⟨rest, hrest⟩ : ∃ rest, encs (zs.drop k) = rest := ⟨_, rfl⟩
          rw [hrest] at hcv
          have HRE := hid_of hrest
          have sr := arr_size rest
          clear hrest hIk
          have HCD : Hid (k = A ↔ (rest.length < eb.length ∧ lower rest = eb.take rest.length) ∧ refR (R.zs l) (p0 l) (zs ++ (tagZ (R.zs l)).drop (zs.drop k).length) = some k) := by
            show k = A ↔ _
            rw [← HS.out]
            unfold Cand
            rw [HRE.out, HEB.out]
            constructor
            · rintro ⟨_, x, y⟩; exact ⟨x, y⟩
            · rintro ⟨x, y⟩; exact ⟨HZ.out, x, y⟩
          by_cases hlr : rest.length < eb.length
          · have hd9 : decide ((rest.length : Int) < (eb.length : Int)) = true := by simp; omega
            have hsl9 := slice_h eb rest.length (by omega) (rest.length : Int) rfl
            have HLW := hid_of (fun W => rlower_calls ⟨rest.toArray⟩ W (by omega))
            have ed : (⟨rest.toArray⟩ : ByteArray).data.toList = rest := by simp
            rw [ed] at HLW
            clear ed
            obtain ⟨V, hV⟩ : ∃ V, eb.take rest.length = V := ⟨_, rfl⟩
            obtain ⟨U, hU⟩ : ∃ U, lower rest = U := ⟨_, rfl⟩
            rw [hV] at hsl9 HCD
            rw [hU] at HLW HCD
            by_cases huv : U = V
            · have HCR := cand_runes HW0.out (rest := zs.drop k) ⟨by rw [HRE.out, HEB.out]; exact hlr, by rw [HRE.out, HEB.out, hU, hV]; exact huv⟩
              rw [HRE.out, List.length_drop] at HCR
              have HM : Hid (rest.length = zs.length - k) := HCR.1
              have hml : rest.length < l.length + 3 := by rw [HCR.1]; exact HCR.2.1
              have htr := tag_runes l HW0.out rest.length (by omega)
              rw [HEB.out] at htr
              have HT : Hid ((tagZ (R.zs l)).drop (zs.drop k).length = (tagZ (R.zs l)).drop rest.length) := by show _ = _; rw [HM.out, List.length_drop]
              have hTz : ∀ z ∈ (tagZ (R.zs l)).drop rest.length, -2147483648 ≤ z ∧ z ≤ 2147483647 := fun z hz => by
                have h1 := List.mem_of_mem_drop hz
                rw [← endB_zs] at h1
                obtain ⟨b, _, e⟩ := List.mem_map.1 h1
                have := b.toNat_lt
                omega
              have hTl : ((tagZ (R.zs l)).drop rest.length).length = l.length + 3 - rest.length := by simp
              obtain ⟨T, eT⟩ : ∃ T, (tagZ (R.zs l)).drop rest.length = T := ⟨_, rfl⟩
              rw [eT] at HT htr hTz hTl
              rw [HT.out] at HCD
              have hT0 : 0 < T.length := by omega
              have hT1 : T.length ≤ 12 := by omega
              have HTZ := hid_of hTz
              clear eT hTz hTl HT
              obtain ⟨eg, heg⟩ : ∃ eg, eb.drop rest.length = eg := ⟨_, rfl⟩
              have hsl10 := slice_l eb rest.length (by omega) (rest.length : Int) rfl
              rw [heg] at htr hsl10
              have hcv10 : ∃ (gc : World → Nat) (more : World → Array Value), (∀ W, T.length ≤ gc W) ∧ ∀ W, (convert 9 32 (.string ⟨eg.toArray⟩)).run Tryd.prog W = .ok (.slice (some ⟨W.heap.size, 0, none⟩) T.length (gc W)) (W.drew.alloc (.cells ((T.map (Value.int .i32)).toArray ++ more W) 21)) := by
                refine ⟨fun W => grownCap W T.length 0 21, fun W => Array.replicate (grownCap W T.length 0 21 - T.length) (.int .i32 0), fun W => grownCap_ge W _ _ _, fun W => ?_⟩
                have := run_runes_of_string (P := Tryd.prog) W 9 32 21 ⟨eg.toArray⟩ Tryd.underlying9 Tryd.underlying32 Tryd.underlying21 (by rw [htr]; simp; omega)
                rw [htr, show ((T.map (Value.int .i32)).toArray).size = T.length by simp] at this
                exact this
              obtain ⟨gc, more, hgc, hcv10⟩ := hcv10
              have HGC := hid_of hgc
              have HCB : Hid (∀ (W : World) (B : Nat) (V : World) (cap : Nat), T.length ≤ cap → W.heap[B]? = some (.cells ((T.map (Value.int .i32)).toArray ++ more V) 21 (0, 0)) → HasI .i32 W (.slice (some ⟨B, 0, none⟩) T.length cap) T) := fun W B V cap h1 h2 => conv_has hT0 h1 h2
              obtain ⟨tz, htz⟩ : ∃ tz, (T.map (Value.int .i32)).toArray = tz := ⟨_, rfl⟩
              rw [htz] at hcv10 HCB
              clear hgc htr heg HCR htz hml
              subst huv
              have hz0 : 0 < zs.length := by omega
              clear hU hV
              go_wp2_with fail
              go_region_held3 (fun _ => True) (trivial) (first | (go_at_call 39; refine (HLW.out _).mono ?_; rintro e w5 ⟨rfl, hb5⟩))
              all_goals
                have HB5 : Hid (Below w.heap.size w w5) := hB.drew.trans (hb5.mono hB.drew.size)
                have HHV : Hid (∀ W, Below w5.heap.size w5 W → HasI .i32 W (.slice (some ⟨b, off, none⟩) zs.length cap) zs) := fun W h => (HI.out.below HB5.out).below h
                clear hb5 hcv HLW hsl9 cz
                go_wp2_with fail
                go_region_law (first
                  | (refine step_runes rfl _ _ rfl w5.heap.size (.slice (some ⟨w5.heap.size, 0, none⟩) 0 0) 0 [] (by simp [Act.eval]) (own_none (blk_new w5.drew _) (by omega)) (.slice (some ⟨b, off, none⟩) zs.length cap) zs (by simp [Act.eval]) (HHV.out _ (by first | exact (Below.refl _ w5).drew.alloc (by simp) _ | exact ((Below.refl _ w5).drew.alloc (by simp) _).drew.alloc (by simp) _ | exact ((Below.refl _ w5).drew.drew.alloc (by simp) _).alloc (by simp) _)) hz0 zs.length (by omega) (by omega) (by first | (simp; done) | (simp; omega)) ?_; intro g1 c1 w6 hown1 hgrow1 hat1; have hb6 : Below w5.heap.size w5 w6 := Below.grown (by first | exact (Below.refl _ w5).drew.alloc (by simp) _ | exact ((Below.refl _ w5).drew.alloc (by simp) _).drew.alloc (by simp) _ | exact ((Below.refl _ w5).drew.drew.alloc (by simp) _).alloc (by simp) _) hgrow1 (by first | (simp; done) | (simp; omega)) (fun j hj => by simp [Value.ownBlock] at hj; omega); have s6 := hgrow1.size)
                  | (refine step_runes rfl _ _ rfl w5.heap.size (.slice (some ⟨w5.heap.size, 0, none⟩) 0 0) 0 [] (by simp [Act.eval]) (own_none (blk_old (blk_drew (blk_new w5.drew _)) _) (by omega)) (.slice (some ⟨b, off, none⟩) zs.length cap) zs (by simp [Act.eval]) (HHV.out _ (by first | exact (Below.refl _ w5).drew.alloc (by simp) _ | exact ((Below.refl _ w5).drew.alloc (by simp) _).drew.alloc (by simp) _ | exact ((Below.refl _ w5).drew.drew.alloc (by simp) _).alloc (by simp) _)) hz0 zs.length (by omega) (by omega) (by first | (simp; done) | (simp; omega)) ?_; intro g1 c1 w6 hown1 hgrow1 hat1; have hb6 : Below w5.heap.size w5 w6 := Below.grown (by first | exact (Below.refl _ w5).drew.alloc (by simp) _ | exact ((Below.refl _ w5).drew.alloc (by simp) _).drew.alloc (by simp) _ | exact ((Below.refl _ w5).drew.drew.alloc (by simp) _).alloc (by simp) _) hgrow1 (by first | (simp; done) | (simp; omega)) (fun j hj => by simp [Value.ownBlock] at hj; omega); have s6 := hgrow1.size)
                  | (refine step_runes rfl _ _ rfl w5.heap.size (.slice (some ⟨w5.heap.size + 1, 0, none⟩) 0 0) 0 [] (by simp [Act.eval]) (own_none (blk_next w5.drew.drew _ _) (by omega)) (.slice (some ⟨b, off, none⟩) zs.length cap) zs (by simp [Act.eval]) (HHV.out _ (by first | exact (Below.refl _ w5).drew.alloc (by simp) _ | exact ((Below.refl _ w5).drew.alloc (by simp) _).drew.alloc (by simp) _ | exact ((Below.refl _ w5).drew.drew.alloc (by simp) _).alloc (by simp) _)) hz0 zs.length (by omega) (by omega) (by first | (simp; done) | (simp; omega)) ?_; intro g1 c1 w6 hown1 hgrow1 hat1; have hb6 : Below w5.heap.size w5 w6 := Below.grown (by first | exact (Below.refl _ w5).drew.alloc (by simp) _ | exact ((Below.refl _ w5).drew.alloc (by simp) _).drew.alloc (by simp) _ | exact ((Below.refl _ w5).drew.drew.alloc (by simp) _).alloc (by simp) _) hgrow1 (by first | (simp; done) | (simp; omega)) (fun j hj => by simp [Value.ownBlock] at hj; omega); have s6 := hgrow1.size)
                  | (refine step_runes rfl _ _ rfl w5.heap.size (.slice (some ⟨g1, 0, none⟩) zs.length c1) zs.length ([] ++ zs.map (Value.int .i32)) (by simp [Act.eval]) (hown1.drew.alloc _) (.slice (some ⟨w6.heap.size, 0, none⟩) T.length (gc w6)) T (by simp [Act.eval]) (HCB.out _ _ (w6) _ (HGC.out _) (blk_new w6.drew _)) hT0 (zs.length + T.length) rfl (by omega) (by have := hb6.size; simp; omega) ?_; intro g2 c2 w7 hown2 hgrow2 hat2; have hb7 : Below w5.heap.size w5 w7 := Below.grown (hb6.drew.alloc hb6.size _) hgrow2 (by have := hb6.size; simp; omega) (fun j hj => (hown1.lt j hj).1))
                  | (refine step_runes rfl _ _ rfl w5.heap.size (.slice (some ⟨g1, 0, none⟩) zs.length c1) zs.length ([] ++ zs.map (Value.int .i32)) (by simp [Act.eval]) hown1 (.slice (some ⟨w5.heap.size + 1, 0, none⟩) T.length (gc (w5.alloc (.cells #[] 21)).drew)) T (by simp [Act.eval]) (HCB.out _ _ ((w5.alloc (.cells #[] 21)).drew) _ (HGC.out _) ((hgrow1.block _ (by simp) (by simp [Value.ownBlock])).trans (blk_over w5.drew _ _))) hT0 (zs.length + T.length) rfl (by omega) hb6.size ?_; intro g2 c2 w7 hown2 hgrow2 hat2; have hb7 : Below w5.heap.size w5 w7 := Below.grown hb6 hgrow2 hb6.size (fun j hj => (hown1.lt j hj).1))
                  | (refine step_runes rfl _ _ rfl w5.heap.size (.slice (some ⟨g1, 0, none⟩) zs.length c1) zs.length ([] ++ zs.map (Value.int .i32)) (by simp [Act.eval]) hown1 (.slice (some ⟨w5.heap.size, 0, none⟩) T.length (gc w5.drew)) T (by simp [Act.eval]) (HCB.out _ _ (w5.drew) _ (HGC.out _) ((hgrow1.block _ (by simp; omega) (by simp [Value.ownBlock])).trans (blk_old (blk_new w5.drew.drew _) _))) hT0 (zs.length + T.length) rfl (by omega) hb6.size ?_; intro g2 c2 w7 hown2 hgrow2 hat2; have hb7 : Below w5.heap.size w5 w7 := Below.grown hb6 hgrow2 hb6.size (fun j hj => (hown1.lt j hj).1)))
                all_goals
                  have HB7 : Hid (Below w.heap.size w w7) := HB5.out.trans (hb7.mono HB5.out.size)
                  have HE7 := hid_of (HEND.out w7 (some ⟨g2, 0, none⟩) c2 (zs ++ T) (by rw [List.length_append]; exact hasI_owns (by rw [List.length_append, List.map_append]; simpa using hown2)) (fun z hz => by
                    rcases List.mem_append.1 hz with h | h
                    · exact HZR.out z h
                    · exact HTZ.out z h) (by rw [List.length_append]; omega))
                  rw [List.length_append] at HE7
                  clear hb6 hb7 hown1 hown2 hgrow1 hgrow2 hat1 hat2 s6 hcv10 hsl10
                  obtain ⟨r, hr⟩ : ∃ r, refR (R.zs l) (p0 l) (zs ++ T) = r := ⟨_, rfl⟩
                  rw [hr] at HE7 HCD
                  clear hr
                  cases r with
                  | none =>
                    have hv : endV none (zs.length + T.length) = .tuple #[.int .i64 ((zs.length + T.length : Nat) : Int), .bool false] := rfl
                    rw [hv] at HE7
                    have HK1 := hid_of (HNX.out (fun e => by have := (HCD.out.1 e).2; simp at this))
                    clear hv
                    go_wp2_with fail
                    (go_at_call 19; refine HE7.out.mono ?_; rintro e w8 ⟨rfl, hb8⟩)
                    go_wp2_with fail
                    exact ⟨⟨k + 1, by omega, by go_num, HK1.out, HB7.out.trans (hb8.mono HB7.out.size)⟩, by simp [intOf]; omega⟩
                  | some j =>
                    have hv : endV (some j) (zs.length + T.length) = .tuple #[.int .i64 (j : Int), .bool true] := rfl
                    rw [hv] at HE7
                    clear hv
                    by_cases hjk : j = k
                    · subst hjk
                      have hA : j = A := HCD.out.2 ⟨⟨hlr, by trivial⟩, rfl⟩
                      have HA := hid_of hA
                      clear hA
                      have hee : ((j : Int) == (j : Int)) = true := by simp
                      go_wp2_with fail
                      (go_at_call 19; refine HE7.out.mono ?_; rintro e w8 ⟨rfl, hb8⟩)
                      go_wp2_with fail
                      go_ret
                      exact ⟨by rw [HA.out]; rfl, HB7.out.trans (hb8.mono HB7.out.size)⟩
                    · have hee : ((j : Int) == (k : Int)) = false := by simp; omega
                      have HK1 := hid_of (HNX.out (fun e => hjk (by have := (HCD.out.1 e).2; simpa using this)))
                      clear hjk
                      go_wp2_with fail
                      (go_at_call 19; refine HE7.out.mono ?_; rintro e w8 ⟨rfl, hb8⟩)
                      go_wp2_with fail
                      exact ⟨⟨k + 1, by omega, by go_num, HK1.out, HB7.out.trans (hb8.mono HB7.out.size)⟩, by simp [intOf]; omega⟩
            · have huvb : (U == V) = false := by simpa using huv
              have HK1 := hid_of (HNX.out (fun e => huv (HCD.out.1 e).1.2))
              clear huv
              go_wp2_with fail
              go_region_held3 (fun _ => True) (trivial) (first | (go_at_call 39; refine (HLW.out _).mono ?_; rintro e w5 ⟨rfl, hb5⟩))
              all_goals go_wp2_with fail
              all_goals exact ⟨⟨k + 1, by omega, by go_num, HK1.out, hB.drew.trans (hb5.mono hB.drew.size)⟩, by simp [intOf]; omega⟩
          · have hd9 : decide ((rest.length : Int) < (eb.length : Int)) = false := by simp; omega
            have HK1 := hid_of (HNX.out (fun e => hlr (HCD.out.1 e).1.1))
            go_wp2_with fail
            go_region
            all_goals go_wp2_with fail
            all_goals exact ⟨⟨k + 1, by omega, by go_num, HK1.out, hB.drew⟩, by simp [intOf]; omega⟩
        · have n60 : (z != 60) = true := by simpa using h60
          have HK1 := hid_of (HNX.out (fun e => h60 (HS.out.2 e).1))
          clear h60
          go_wp2_with fail
          go_roundw
          case rel => exact ⟨k + 1, by omega, by go_num, HK1.out, hB⟩
          case measure => simp [intOf]; omega
      · obtain rfl : k = zs.length := by omega
        obtain rfl : A = zs.length := by have := hkA.out; omega
        go_wp2_with fail
        go_ret
        exact ⟨rfl, hB⟩
end Go.Proofs.YtegkdgmpkfpjmaaDoor.R
