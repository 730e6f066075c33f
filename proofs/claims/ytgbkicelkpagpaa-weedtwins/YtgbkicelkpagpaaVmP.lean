/- The functions that the law reaches, as the small machine takes them. -/
import Derived.Test.YtgbkicelkpagpaaVmA
import Derived.KernelRfl
open Go.Vm
namespace Go.Proofs.Ytgbkicelkpagpaa.W
open Go
def fn6 : AFn := (AFn.mk 57 [(.t 2)] (.seq (.ops [
  (.mk (some 2) none (.pure (.mv (.c (.b false)))))]) (.seq (.ops [
  (.mk (some 12) none (.pure (.mv (.t 0)))), 
  (.mk (some 13) none (.call 30 [(.t 12)])), 
  (.mk (some 11) none (.pure (.mv (.t 13)))), 
  (.mk (some 14) none (.pure (.ext 0 (.t 11)))), 
  (.mk (some 15) none (.pure (.ext 1 (.t 11)))), 
  (.mk (some 3) none (.pure (.mv (.t 14)))), 
  (.mk (some 4) none (.pure (.mv (.t 15))))]) (.seq (.ops [
  (.mk (some 17) none (.pure (.mv (.t 0)))), 
  (.mk (some 18) none (.call 31 [(.t 17)])), 
  (.mk (some 16) none (.pure (.mv (.t 18)))), 
  (.mk (some 19) none (.pure (.ext 0 (.t 16)))), 
  (.mk (some 20) none (.pure (.ext 1 (.t 16)))), 
  (.mk (some 5) none (.pure (.mv (.t 19)))), 
  (.mk (some 6) none (.pure (.mv (.t 20))))]) (.seq (.seq (.ops [
  (.mk (some 21) none (.pure (.mv (.t 3)))), 
  (.mk (some 22) none (.pure (.mv (.t 5)))), 
  (.mk (some 23) none (.pure (.beq true (.t 21) (.t 22)))), 
  (.mk (some 24) none (.pure (.mv (.t 23)))), 
  (.mk (some 25) (some (24, false)) (.pure (.mv (.t 4)))), 
  (.mk (some 26) (some (24, false)) (.pure (.mv (.t 6)))), 
  (.mk (some 27) (some (24, false)) (.pure (.bin .neq (.t 25) (.t 26)))), 
  (.mk (some 28) none (.pure (.pick (.t 24) (.c (.b true)) (.t 27))))]) (.cond (.t 28) (.seq (.ops [
  (.mk (some 2) none (.pure (.mv (.c (.b false)))))]) .ret) .skip)) (.seq (.ops [
  (.mk (some 30) none (.pure (.mv (.t 0)))), 
  (.mk (some 31) none (.call 32 [(.t 30)])), 
  (.mk (some 29) none (.pure (.mv (.t 31)))), 
  (.mk (some 32) none (.pure (.ext 0 (.t 29)))), 
  (.mk (some 33) none (.pure (.ext 1 (.t 29)))), 
  (.mk (some 34) none (.pure (.ext 2 (.t 29)))), 
  (.mk (some 7) none (.pure (.mv (.t 32)))), 
  (.mk (some 8) none (.pure (.mv (.t 33)))), 
  (.mk (some 4) none (.pure (.mv (.t 34))))]) (.seq (.ops [
  (.mk (some 36) none (.pure (.mv (.t 0)))), 
  (.mk (some 37) none (.call 33 [(.t 36)])), 
  (.mk (some 35) none (.pure (.mv (.t 37)))), 
  (.mk (some 38) none (.pure (.ext 0 (.t 35)))), 
  (.mk (some 39) none (.pure (.ext 1 (.t 35)))), 
  (.mk (some 40) none (.pure (.ext 2 (.t 35)))), 
  (.mk (some 9) none (.pure (.mv (.t 38)))), 
  (.mk (some 10) none (.pure (.mv (.t 39)))), 
  (.mk (some 6) none (.pure (.mv (.t 40))))]) (.seq (.ops [
  (.mk (some 41) none (.pure (.mv (.t 7)))), 
  (.mk (some 42) none (.pure (.mv (.t 9)))), 
  (.mk (some 43) none (.pure (.sbin .eql (.t 41) (.t 42)))), 
  (.mk (some 44) none (.pure (.mv (.t 43)))), 
  (.mk (some 45) (some (44, true)) (.pure (.mv (.t 8)))), 
  (.mk (some 46) (some (44, true)) (.pure (.mv (.t 10)))), 
  (.mk (some 47) (some (44, true)) (.pure (.sbin .eql (.t 45) (.t 46)))), 
  (.mk (some 48) none (.pure (.pick (.t 44) (.t 47) (.c (.b false))))), 
  (.mk (some 49) none (.pure (.mv (.t 48)))), 
  (.mk (some 50) (some (49, true)) (.pure (.mv (.t 4)))), 
  (.mk (some 51) (some (49, true)) (.pure (.mv (.t 6)))), 
  (.mk (some 52) (some (49, true)) (.pure (.bin .eql (.t 50) (.t 51)))), 
  (.mk (some 53) none (.pure (.pick (.t 49) (.t 52) (.c (.b false))))), 
  (.mk (some 54) none (.pure (.mv (.t 53)))), 
  (.mk (some 55) (some (54, true)) (.call 15 [])), 
  (.mk (some 56) none (.pure (.pick (.t 54) (.t 55) (.c (.b false))))), 
  (.mk (some 2) none (.pure (.mv (.t 56))))]) .ret))))))))
def fn9 : AFn := (AFn.mk 110 [(.t 2)] (.seq (.ops [
  (.mk (some 2) none (.pure (.mv (.c (.b false)))))]) (.seq (.ops [
  (.mk (some 10) none (.pure (.mv (.t 0)))), 
  (.mk (some 11) none (.pure (.conv .i64 (.t 10)))), 
  (.mk (some 3) none (.pure (.mv (.t 11))))]) (.seq (.ops [
  (.mk (some 13) none (.pure (.mv (.t 3)))), 
  (.mk (some 14) none (.call 28 [(.t 13)])), 
  (.mk (some 12) none (.pure (.mv (.t 14)))), 
  (.mk (some 15) none (.pure (.ext 0 (.t 12)))), 
  (.mk (some 16) none (.pure (.ext 1 (.t 12)))), 
  (.mk (some 4) none (.pure (.mv (.t 15)))), 
  (.mk (some 5) none (.pure (.mv (.t 16))))]) (.seq (.ops [
  (.mk (some 18) none (.pure (.mv (.t 3)))), 
  (.mk (some 19) none (.call 30 [(.t 18)])), 
  (.mk (some 17) none (.pure (.mv (.t 19)))), 
  (.mk (some 20) none (.pure (.ext 0 (.t 17)))), 
  (.mk (some 21) none (.pure (.ext 1 (.t 17)))), 
  (.mk (some 6) none (.pure (.mv (.t 20)))), 
  (.mk (some 7) none (.pure (.mv (.t 21))))]) (.seq (.ops [
  (.mk (some 23) none (.pure (.mv (.t 3)))), 
  (.mk (some 24) none (.call 26 [(.t 23), (.c (.i .i64 20))])), 
  (.mk (some 22) none (.pure (.mv (.t 24)))), 
  (.mk (some 25) none (.pure (.ext 0 (.t 22)))), 
  (.mk (some 26) none (.pure (.ext 1 (.t 22)))), 
  (.mk (some 8) none (.pure (.mv (.t 25)))), 
  (.mk (some 9) none (.pure (.mv (.t 26))))]) (.seq (.seq (.ops [
  (.mk (some 27) none (.pure (.mv (.t 5)))), 
  (.mk (some 28) none (.pure (.bin .neq (.t 27) (.c (.i .i64 0))))), 
  (.mk (some 29) none (.pure (.mv (.t 28)))), 
  (.mk (some 30) (some (29, false)) (.pure (.mv (.t 7)))), 
  (.mk (some 31) (some (29, false)) (.pure (.bin .neq (.t 30) (.c (.i .i64 0))))), 
  (.mk (some 32) none (.pure (.pick (.t 29) (.c (.b true)) (.t 31)))), 
  (.mk (some 33) none (.pure (.mv (.t 32)))), 
  (.mk (some 34) (some (33, false)) (.pure (.mv (.t 6)))), 
  (.mk (some 35) (some (33, false)) (.pure (.mv (.t 34)))), 
  (.mk (some 36) (some (35, true)) (.pure (.mv (.t 4)))), 
  (.mk (some 37) (some (35, true)) (.pure (.not (.t 36)))), 
  (.mk (some 38) (some (33, false)) (.pure (.pick (.t 35) (.t 37) (.c (.b false))))), 
  (.mk (some 39) none (.pure (.pick (.t 33) (.c (.b true)) (.t 38)))), 
  (.mk (some 40) none (.pure (.mv (.t 39)))), 
  (.mk (some 41) (some (40, false)) (.pure (.mv (.t 4)))), 
  (.mk (some 42) (some (40, false)) (.pure (.mv (.t 9)))), 
  (.mk (some 43) (some (40, false)) (.pure (.bin .eql (.t 42) (.c (.i .i64 10))))), 
  (.mk (some 44) (some (40, false)) (.pure (.beq true (.t 41) (.t 43)))), 
  (.mk (some 45) none (.pure (.pick (.t 40) (.c (.b true)) (.t 44)))), 
  (.mk (some 46) none (.pure (.mv (.t 45)))), 
  (.mk (some 47) (some (46, false)) (.pure (.mv (.t 4)))), 
  (.mk (some 48) (some (46, false)) (.pure (.not (.t 47)))), 
  (.mk (some 49) (some (46, false)) (.pure (.mv (.t 48)))), 
  (.mk (some 50) (some (49, true)) (.pure (.mv (.t 9)))), 
  (.mk (some 51) (some (49, true)) (.pure (.bin .neq (.t 50) (.c (.i .i64 0))))), 
  (.mk (some 52) (some (46, false)) (.pure (.pick (.t 49) (.t 51) (.c (.b false))))), 
  (.mk (some 53) none (.pure (.pick (.t 46) (.c (.b true)) (.t 52))))]) (.cond (.t 53) (.seq (.ops [
  (.mk (some 2) none (.pure (.mv (.c (.b false)))))]) .ret) .skip)) (.seq (.seq (.ops [
  (.mk (some 54) none (.pure (.mv (.t 4))))]) (.cond (.t 54) (.seq (.ops [
  (.mk (some 55) none (.pure (.mv (.t 8)))), 
  (.mk (some 56) none (.pure (.sbin .eql (.t 55) (.c (.s []))))), 
  (.mk (some 57) none (.pure (.mv (.t 56)))), 
  (.mk (some 58) (some (57, true)) (.call 15 [])), 
  (.mk (some 59) none (.pure (.pick (.t 57) (.t 58) (.c (.b false))))), 
  (.mk (some 2) none (.pure (.mv (.t 59))))]) .ret) .skip)) (.seq (.ops [
  (.mk (some 61) none (.pure (.mv (.t 3)))), 
  (.mk (some 62) none (.pure (.mv (.t 8)))), 
  (.mk (some 63) none (.call 20 [(.t 61), (.t 62)])), 
  (.mk (some 60) none (.pure (.mv (.t 63)))), 
  (.mk (some 64) none (.pure (.ext 0 (.t 60)))), 
  (.mk (some 65) none (.pure (.ext 1 (.t 60)))), 
  (.mk (some 5) none (.pure (.mv (.t 65))))]) (.seq (.seq (.ops [
  (.mk (some 66) none (.pure (.mv (.t 5)))), 
  (.mk (some 67) none (.pure (.bin .neq (.t 66) (.c (.i .i64 10))))), 
  (.mk (some 68) none (.pure (.mv (.t 67)))), 
  (.mk (some 69) (some (68, false)) (.pure (.mv (.t 8)))), 
  (.mk (some 70) (some (68, false)) (.pure (.len true (.t 69)))), 
  (.mk (some 71) (some (68, false)) (.pure (.bin .gtr (.t 70) (.c (.i .i64 20))))), 
  (.mk (some 72) none (.pure (.pick (.t 68) (.c (.b true)) (.t 71))))]) (.cond (.t 72) (.seq (.ops [
  (.mk (some 2) none (.pure (.mv (.c (.b false)))))]) .ret) .skip)) (.seq (.seq (.ops [
  (.mk (some 73) none (.pure (.mv (.t 8)))), 
  (.mk (some 74) none (.pure (.len true (.t 73)))), 
  (.mk (some 75) none (.pure (.bin .gtr (.t 74) (.c (.i .i64 1)))))]) (.cond (.t 75) (.seq (.ops [
  (.mk (some 77) none (.pure (.mv (.t 3)))), 
  (.mk (some 78) none (.pure (.mv (.t 8)))), 
  (.mk (some 79) none (.pure (.slStr (.t 78) (some (.c (.i .i64 1))) none))), 
  (.mk (some 80) none (.call 20 [(.t 77), (.t 79)])), 
  (.mk (some 76) none (.pure (.mv (.t 80)))), 
  (.mk (some 81) none (.pure (.ext 0 (.t 76)))), 
  (.mk (some 82) none (.pure (.ext 1 (.t 76)))), 
  (.mk (some 5) none (.pure (.mv (.t 82))))]) (.seq (.ops [
  (.mk (some 84) none (.pure (.mv (.t 3)))), 
  (.mk (some 85) none (.pure (.mv (.t 8)))), 
  (.mk (some 86) none (.pure (.mv (.t 8)))), 
  (.mk (some 87) none (.pure (.len true (.t 86)))), 
  (.mk (some 88) none (.pure (.bin .sub (.t 87) (.c (.i .i64 1))))), 
  (.mk (some 89) none (.pure (.slStr (.t 85) none (some (.t 88))))), 
  (.mk (some 90) none (.call 20 [(.t 84), (.t 89)])), 
  (.mk (some 83) none (.pure (.mv (.t 90)))), 
  (.mk (some 91) none (.pure (.ext 0 (.t 83)))), 
  (.mk (some 92) none (.pure (.ext 1 (.t 83)))), 
  (.mk (some 7) none (.pure (.mv (.t 92))))]) (.seq (.seq (.ops [
  (.mk (some 93) none (.pure (.mv (.t 5)))), 
  (.mk (some 94) none (.pure (.bin .neq (.t 93) (.c (.i .i64 0))))), 
  (.mk (some 95) none (.pure (.mv (.t 94)))), 
  (.mk (some 96) (some (95, false)) (.pure (.mv (.t 7)))), 
  (.mk (some 97) (some (95, false)) (.pure (.bin .neq (.t 96) (.c (.i .i64 0))))), 
  (.mk (some 98) none (.pure (.pick (.t 95) (.c (.b true)) (.t 97))))]) (.cond (.t 98) (.seq (.ops [
  (.mk (some 2) none (.pure (.mv (.c (.b false)))))]) .ret) .skip)) (.seq (.ops [
  (.mk (some 100) none (.pure (.mv (.t 3)))), 
  (.mk (some 101) none (.pure (.mv (.t 8)))), 
  (.mk (some 102) none (.pure (.len true (.t 101)))), 
  (.mk (some 103) none (.pure (.bin .sub (.t 102) (.c (.i .i64 1))))), 
  (.mk (some 104) none (.call 26 [(.t 100), (.t 103)])), 
  (.mk (some 99) none (.pure (.mv (.t 104)))), 
  (.mk (some 105) none (.pure (.ext 0 (.t 99)))), 
  (.mk (some 106) none (.pure (.ext 1 (.t 99)))), 
  (.mk (some 5) none (.pure (.mv (.t 106))))]) (.seq (.ops [
  (.mk (some 107) none (.pure (.mv (.t 5)))), 
  (.mk (some 108) none (.pure (.bin .neq (.t 107) (.c (.i .i64 10)))))]) (.cond (.t 108) (.seq (.ops [
  (.mk (some 2) none (.pure (.mv (.c (.b false)))))]) .ret) .skip)))))) .skip)) (.seq (.ops [
  (.mk (some 109) none (.call 15 [])), 
  (.mk (some 2) none (.pure (.mv (.t 109))))]) .ret))))))))))))
def fn13 : AFn := (AFn.mk 218 [(.t 6)] (.seq (.ops [
  (.mk (some 6) none (.pure (.mv (.c (.b false)))))]) (.seq (.seq (.ops [
  (.mk (some 29) none (.pure (.mv (.t 1)))), 
  (.mk (some 30) none (.pure (.len true (.t 29)))), 
  (.mk (some 31) none (.pure (.bin .gtr (.t 30) (.c (.i .i64 500)))))]) (.cond (.t 31) (.seq (.ops [
  (.mk (some 32) none (.call 15 [])), 
  (.mk (some 6) none (.pure (.mv (.t 32))))]) .ret) .skip)) (.seq (.ops [
  (.mk (some 33) none (.pure (.mv (.t 0)))), 
  (.mk (some 34) none (.pure (.conv .i64 (.t 33)))), 
  (.mk (some 7) none (.pure (.mv (.t 34))))]) (.seq (.ops [
  (.mk (some 36) none (.pure (.mv (.t 7)))), 
  (.mk (some 37) none (.call 36 [(.t 36)])), 
  (.mk (some 35) none (.pure (.mv (.t 37)))), 
  (.mk (some 38) none (.pure (.ext 0 (.t 35)))), 
  (.mk (some 39) none (.pure (.ext 1 (.t 35)))), 
  (.mk (some 40) none (.pure (.ext 2 (.t 35)))), 
  (.mk (some 8) none (.pure (.mv (.t 38)))), 
  (.mk (some 9) none (.pure (.mv (.t 39)))), 
  (.mk (some 10) none (.pure (.mv (.t 40))))]) (.seq (.seq (.ops [
  (.mk (some 41) none (.pure (.mv (.t 10)))), 
  (.mk (some 42) none (.pure (.bin .neq (.t 41) (.c (.i .i64 0)))))]) (.cond (.t 42) (.seq (.ops [
  (.mk (some 6) none (.pure (.mv (.c (.b false)))))]) .ret) .skip)) (.seq (.ops [
  (.mk (some 44) none (.pure (.mv (.t 8)))), 
  (.mk (some 45) none (.call 36 [(.t 44)])), 
  (.mk (some 43) none (.pure (.mv (.t 45)))), 
  (.mk (some 46) none (.pure (.ext 0 (.t 43)))), 
  (.mk (some 47) none (.pure (.ext 1 (.t 43)))), 
  (.mk (some 48) none (.pure (.ext 2 (.t 43)))), 
  (.mk (some 11) none (.pure (.mv (.t 46)))), 
  (.mk (some 12) none (.pure (.mv (.t 47)))), 
  (.mk (some 10) none (.pure (.mv (.t 48))))]) (.seq (.ops [
  (.mk (some 50) none (.pure (.mv (.t 9)))), 
  (.mk (some 51) none (.call 36 [(.t 50)])), 
  (.mk (some 49) none (.pure (.mv (.t 51)))), 
  (.mk (some 52) none (.pure (.ext 0 (.t 49)))), 
  (.mk (some 53) none (.pure (.ext 1 (.t 49)))), 
  (.mk (some 54) none (.pure (.ext 2 (.t 49)))), 
  (.mk (some 13) none (.pure (.mv (.t 52)))), 
  (.mk (some 14) none (.pure (.mv (.t 53)))), 
  (.mk (some 15) none (.pure (.mv (.t 54))))]) (.seq (.seq (.ops [
  (.mk (some 55) none (.pure (.mv (.t 10)))), 
  (.mk (some 56) none (.pure (.bin .neq (.t 55) (.c (.i .i64 0))))), 
  (.mk (some 57) none (.pure (.mv (.t 56)))), 
  (.mk (some 58) (some (57, false)) (.pure (.mv (.t 15)))), 
  (.mk (some 59) (some (57, false)) (.pure (.bin .neq (.t 58) (.c (.i .i64 0))))), 
  (.mk (some 60) none (.pure (.pick (.t 57) (.c (.b true)) (.t 59)))), 
  (.mk (some 61) none (.pure (.mv (.t 60)))), 
  (.mk (some 62) (some (61, false)) (.pure (.mv (.t 11)))), 
  (.mk (some 63) (some (61, false)) (.pure (.mv (.t 7)))), 
  (.mk (some 64) (some (61, false)) (.pure (.bin .neq (.t 62) (.t 63)))), 
  (.mk (some 65) none (.pure (.pick (.t 61) (.c (.b true)) (.t 64)))), 
  (.mk (some 66) none (.pure (.mv (.t 65)))), 
  (.mk (some 67) (some (66, false)) (.pure (.mv (.t 14)))), 
  (.mk (some 68) (some (66, false)) (.pure (.mv (.t 7)))), 
  (.mk (some 69) (some (66, false)) (.pure (.bin .neq (.t 67) (.t 68)))), 
  (.mk (some 70) none (.pure (.pick (.t 66) (.c (.b true)) (.t 69))))]) (.cond (.t 70) (.seq (.ops [
  (.mk (some 6) none (.pure (.mv (.c (.b false)))))]) .ret) .skip)) (.seq (.ops [
  (.mk (some 72) none (.pure (.mv (.t 7)))), 
  (.mk (some 73) none (.call 28 [(.t 72)])), 
  (.mk (some 71) none (.pure (.mv (.t 73)))), 
  (.mk (some 74) none (.pure (.ext 0 (.t 71)))), 
  (.mk (some 75) none (.pure (.ext 1 (.t 71)))), 
  (.mk (some 16) none (.pure (.mv (.t 74)))), 
  (.mk (some 10) none (.pure (.mv (.t 75))))]) (.seq (.ops [
  (.mk (some 77) none (.pure (.mv (.t 7)))), 
  (.mk (some 78) none (.call 30 [(.t 77)])), 
  (.mk (some 76) none (.pure (.mv (.t 78)))), 
  (.mk (some 79) none (.pure (.ext 0 (.t 76)))), 
  (.mk (some 80) none (.pure (.ext 1 (.t 76)))), 
  (.mk (some 17) none (.pure (.mv (.t 79)))), 
  (.mk (some 15) none (.pure (.mv (.t 80))))]) (.seq (.ops [
  (.mk (some 82) none (.pure (.mv (.t 7)))), 
  (.mk (some 83) none (.call 38 [(.t 82)])), 
  (.mk (some 81) none (.pure (.mv (.t 83)))), 
  (.mk (some 84) none (.pure (.ext 0 (.t 81)))), 
  (.mk (some 85) none (.pure (.ext 1 (.t 81)))), 
  (.mk (some 18) none (.pure (.mv (.t 84)))), 
  (.mk (some 19) none (.pure (.mv (.t 85))))]) (.seq (.ops [
  (.mk (some 87) none (.pure (.mv (.t 8)))), 
  (.mk (some 88) none (.call 28 [(.t 87)])), 
  (.mk (some 86) none (.pure (.mv (.t 88)))), 
  (.mk (some 89) none (.pure (.ext 0 (.t 86)))), 
  (.mk (some 90) none (.pure (.ext 1 (.t 86)))), 
  (.mk (some 20) none (.pure (.mv (.t 89)))), 
  (.mk (some 21) none (.pure (.mv (.t 90))))]) (.seq (.ops [
  (.mk (some 92) none (.pure (.mv (.t 8)))), 
  (.mk (some 93) none (.call 30 [(.t 92)])), 
  (.mk (some 91) none (.pure (.mv (.t 93)))), 
  (.mk (some 94) none (.pure (.ext 0 (.t 91)))), 
  (.mk (some 95) none (.pure (.ext 1 (.t 91)))), 
  (.mk (some 22) none (.pure (.mv (.t 94)))), 
  (.mk (some 23) none (.pure (.mv (.t 95))))]) (.seq (.ops [
  (.mk (some 97) none (.pure (.mv (.t 8)))), 
  (.mk (some 98) none (.call 38 [(.t 97)])), 
  (.mk (some 96) none (.pure (.mv (.t 98)))), 
  (.mk (some 99) none (.pure (.ext 0 (.t 96)))), 
  (.mk (some 100) none (.pure (.ext 1 (.t 96)))), 
  (.mk (some 24) none (.pure (.mv (.t 99)))), 
  (.mk (some 25) none (.pure (.mv (.t 100))))]) (.seq (.seq (.ops [
  (.mk (some 101) none (.pure (.mv (.t 10)))), 
  (.mk (some 102) none (.pure (.bin .neq (.t 101) (.c (.i .i64 0))))), 
  (.mk (some 103) none (.pure (.mv (.t 102)))), 
  (.mk (some 104) (some (103, false)) (.pure (.mv (.t 15)))), 
  (.mk (some 105) (some (103, false)) (.pure (.bin .neq (.t 104) (.c (.i .i64 0))))), 
  (.mk (some 106) none (.pure (.pick (.t 103) (.c (.b true)) (.t 105)))), 
  (.mk (some 107) none (.pure (.mv (.t 106)))), 
  (.mk (some 108) (some (107, false)) (.pure (.mv (.t 19)))), 
  (.mk (some 109) (some (107, false)) (.pure (.bin .neq (.t 108) (.c (.i .i64 0))))), 
  (.mk (some 110) none (.pure (.pick (.t 107) (.c (.b true)) (.t 109)))), 
  (.mk (some 111) none (.pure (.mv (.t 110)))), 
  (.mk (some 112) (some (111, false)) (.pure (.mv (.t 21)))), 
  (.mk (some 113) (some (111, false)) (.pure (.bin .neq (.t 112) (.c (.i .i64 0))))), 
  (.mk (some 114) none (.pure (.pick (.t 111) (.c (.b true)) (.t 113)))), 
  (.mk (some 115) none (.pure (.mv (.t 114)))), 
  (.mk (some 116) (some (115, false)) (.pure (.mv (.t 23)))), 
  (.mk (some 117) (some (115, false)) (.pure (.bin .neq (.t 116) (.c (.i .i64 0))))), 
  (.mk (some 118) none (.pure (.pick (.t 115) (.c (.b true)) (.t 117)))), 
  (.mk (some 119) none (.pure (.mv (.t 118)))), 
  (.mk (some 120) (some (119, false)) (.pure (.mv (.t 25)))), 
  (.mk (some 121) (some (119, false)) (.pure (.bin .neq (.t 120) (.c (.i .i64 0))))), 
  (.mk (some 122) none (.pure (.pick (.t 119) (.c (.b true)) (.t 121)))), 
  (.mk (some 123) none (.pure (.mv (.t 122)))), 
  (.mk (some 124) (some (123, false)) (.pure (.mv (.t 16)))), 
  (.mk (some 125) (some (123, false)) (.pure (.mv (.t 20)))), 
  (.mk (some 126) (some (123, false)) (.pure (.beq true (.t 124) (.t 125)))), 
  (.mk (some 127) none (.pure (.pick (.t 123) (.c (.b true)) (.t 126)))), 
  (.mk (some 128) none (.pure (.mv (.t 127)))), 
  (.mk (some 129) (some (128, false)) (.pure (.mv (.t 17)))), 
  (.mk (some 130) (some (128, false)) (.pure (.mv (.t 22)))), 
  (.mk (some 131) (some (128, false)) (.pure (.beq true (.t 129) (.t 130)))), 
  (.mk (some 132) none (.pure (.pick (.t 128) (.c (.b true)) (.t 131)))), 
  (.mk (some 133) none (.pure (.mv (.t 132)))), 
  (.mk (some 134) (some (133, false)) (.pure (.mv (.t 18)))), 
  (.mk (some 135) (some (133, false)) (.pure (.mv (.t 24)))), 
  (.mk (some 136) (some (133, false)) (.pure (.beq true (.t 134) (.t 135)))), 
  (.mk (some 137) none (.pure (.pick (.t 133) (.c (.b true)) (.t 136))))]) (.cond (.t 137) (.seq (.ops [
  (.mk (some 6) none (.pure (.mv (.c (.b false)))))]) .ret) .skip)) (.seq (.ops [
  (.mk (some 139) none (.pure (.mv (.t 9)))), 
  (.mk (some 140) none (.call 28 [(.t 139)])), 
  (.mk (some 138) none (.pure (.mv (.t 140)))), 
  (.mk (some 141) none (.pure (.ext 0 (.t 138)))), 
  (.mk (some 142) none (.pure (.ext 1 (.t 138)))), 
  (.mk (some 20) none (.pure (.mv (.t 141)))), 
  (.mk (some 10) none (.pure (.mv (.t 142))))]) (.seq (.ops [
  (.mk (some 144) none (.pure (.mv (.t 9)))), 
  (.mk (some 145) none (.call 30 [(.t 144)])), 
  (.mk (some 143) none (.pure (.mv (.t 145)))), 
  (.mk (some 146) none (.pure (.ext 0 (.t 143)))), 
  (.mk (some 147) none (.pure (.ext 1 (.t 143)))), 
  (.mk (some 22) none (.pure (.mv (.t 146)))), 
  (.mk (some 15) none (.pure (.mv (.t 147))))]) (.seq (.seq (.ops [
  (.mk (some 148) none (.pure (.mv (.t 10)))), 
  (.mk (some 149) none (.pure (.bin .neq (.t 148) (.c (.i .i64 0))))), 
  (.mk (some 150) none (.pure (.mv (.t 149)))), 
  (.mk (some 151) (some (150, false)) (.pure (.mv (.t 15)))), 
  (.mk (some 152) (some (150, false)) (.pure (.bin .neq (.t 151) (.c (.i .i64 0))))), 
  (.mk (some 153) none (.pure (.pick (.t 150) (.c (.b true)) (.t 152)))), 
  (.mk (some 154) none (.pure (.mv (.t 153)))), 
  (.mk (some 155) (some (154, false)) (.pure (.mv (.t 16)))), 
  (.mk (some 156) (some (154, false)) (.pure (.mv (.t 20)))), 
  (.mk (some 157) (some (154, false)) (.pure (.beq true (.t 155) (.t 156)))), 
  (.mk (some 158) none (.pure (.pick (.t 154) (.c (.b true)) (.t 157)))), 
  (.mk (some 159) none (.pure (.mv (.t 158)))), 
  (.mk (some 160) (some (159, false)) (.pure (.mv (.t 17)))), 
  (.mk (some 161) (some (159, false)) (.pure (.mv (.t 22)))), 
  (.mk (some 162) (some (159, false)) (.pure (.beq true (.t 160) (.t 161)))), 
  (.mk (some 163) none (.pure (.pick (.t 159) (.c (.b true)) (.t 162))))]) (.cond (.t 163) (.seq (.ops [
  (.mk (some 6) none (.pure (.mv (.c (.b false)))))]) .ret) .skip)) (.seq (.ops [
  (.mk (some 165) none (.pure (.mv (.t 7)))), 
  (.mk (some 166) none (.pure (.mv (.t 1)))), 
  (.mk (some 167) none (.pure (.mv (.t 2)))), 
  (.mk (some 168) none (.pure (.conv .i64 (.t 167)))), 
  (.mk (some 169) none (.call 18 [(.t 165), (.t 166), (.t 168)])), 
  (.mk (some 164) none (.pure (.mv (.t 169)))), 
  (.mk (some 170) none (.pure (.ext 0 (.t 164)))), 
  (.mk (some 171) none (.pure (.ext 1 (.t 164)))), 
  (.mk (some 26) none (.pure (.mv (.t 170)))), 
  (.mk (some 10) none (.pure (.mv (.t 171))))]) (.seq (.seq (.ops [
  (.mk (some 172) none (.pure (.mv (.t 10)))), 
  (.mk (some 173) none (.pure (.bin .neq (.t 172) (.c (.i .i64 0)))))]) (.cond (.t 173) (.seq (.ops [
  (.mk (some 174) none (.pure (.mv (.t 26)))), 
  (.mk (some 175) none (.pure (.sbin .eql (.t 174) (.c (.s []))))), 
  (.mk (some 176) none (.pure (.mv (.t 175)))), 
  (.mk (some 177) (some (176, true)) (.call 15 [])), 
  (.mk (some 178) none (.pure (.pick (.t 176) (.t 177) (.c (.b false))))), 
  (.mk (some 6) none (.pure (.mv (.t 178))))]) .ret) .skip)) (.seq (.ops [
  (.mk (some 180) none (.pure (.mv (.t 8)))), 
  (.mk (some 181) none (.pure (.mv (.t 1)))), 
  (.mk (some 182) none (.call 41 [(.t 181)])), 
  (.mk (some 183) none (.pure (.mv (.t 2)))), 
  (.mk (some 184) none (.pure (.conv .i64 (.t 183)))), 
  (.mk (some 185) none (.call 18 [(.t 180), (.t 182), (.t 184)])), 
  (.mk (some 179) none (.pure (.mv (.t 185)))), 
  (.mk (some 186) none (.pure (.ext 0 (.t 179)))), 
  (.mk (some 187) none (.pure (.ext 1 (.t 179)))), 
  (.mk (some 27) none (.pure (.mv (.t 186)))), 
  (.mk (some 15) none (.pure (.mv (.t 187))))]) (.seq (.ops [
  (.mk (some 189) none (.pure (.mv (.t 9)))), 
  (.mk (some 190) none (.pure (.mv (.t 1)))), 
  (.mk (some 191) none (.call 42 [(.t 190)])), 
  (.mk (some 192) none (.pure (.mv (.t 2)))), 
  (.mk (some 193) none (.pure (.conv .i64 (.t 192)))), 
  (.mk (some 194) none (.call 18 [(.t 189), (.t 191), (.t 193)])), 
  (.mk (some 188) none (.pure (.mv (.t 194)))), 
  (.mk (some 195) none (.pure (.ext 0 (.t 188)))), 
  (.mk (some 196) none (.pure (.ext 1 (.t 188)))), 
  (.mk (some 28) none (.pure (.mv (.t 195)))), 
  (.mk (some 19) none (.pure (.mv (.t 196))))]) (.seq (.ops [
  (.mk (some 197) none (.pure (.mv (.t 15)))), 
  (.mk (some 198) none (.pure (.bin .eql (.t 197) (.c (.i .i64 0))))), 
  (.mk (some 199) none (.pure (.mv (.t 198)))), 
  (.mk (some 200) (some (199, true)) (.pure (.mv (.t 19)))), 
  (.mk (some 201) (some (199, true)) (.pure (.bin .eql (.t 200) (.c (.i .i64 0))))), 
  (.mk (some 202) none (.pure (.pick (.t 199) (.t 201) (.c (.b false))))), 
  (.mk (some 203) none (.pure (.mv (.t 202)))), 
  (.mk (some 204) (some (203, true)) (.pure (.mv (.t 27)))), 
  (.mk (some 205) (some (203, true)) (.call 41 [(.t 204)])), 
  (.mk (some 206) (some (203, true)) (.pure (.mv (.t 26)))), 
  (.mk (some 207) (some (203, true)) (.pure (.sbin .eql (.t 205) (.t 206)))), 
  (.mk (some 208) none (.pure (.pick (.t 203) (.t 207) (.c (.b false))))), 
  (.mk (some 209) none (.pure (.mv (.t 208)))), 
  (.mk (some 210) (some (209, true)) (.pure (.mv (.t 28)))), 
  (.mk (some 211) (some (209, true)) (.call 42 [(.t 210)])), 
  (.mk (some 212) (some (209, true)) (.pure (.mv (.t 26)))), 
  (.mk (some 213) (some (209, true)) (.pure (.sbin .eql (.t 211) (.t 212)))), 
  (.mk (some 214) none (.pure (.pick (.t 209) (.t 213) (.c (.b false))))), 
  (.mk (some 215) none (.pure (.mv (.t 214)))), 
  (.mk (some 216) (some (215, true)) (.call 15 [])), 
  (.mk (some 217) none (.pure (.pick (.t 215) (.t 216) (.c (.b false))))), 
  (.mk (some 6) none (.pure (.mv (.t 217))))]) .ret))))))))))))))))))))))))
def fn15 : AFn := (AFn.mk 60 [(.t 0)] (.seq (.ops [
  (.mk (some 0) none (.pure (.mv (.c (.b false)))))]) (.seq (.ops [
  (.mk (some 11) none (.call 16 [(.c (.i .i64 90)), (.c (.s [48, 48, 49, 48, 48]))])), 
  (.mk (some 10) none (.pure (.mv (.t 11)))), 
  (.mk (some 12) none (.pure (.ext 0 (.t 10)))), 
  (.mk (some 13) none (.pure (.ext 1 (.t 10)))), 
  (.mk (some 1) none (.pure (.mv (.t 12)))), 
  (.mk (some 2) none (.pure (.mv (.t 13))))]) (.seq (.ops [
  (.mk (some 15) none (.call 26 [(.c (.i .i64 110)), (.c (.i .i64 20))])), 
  (.mk (some 14) none (.pure (.mv (.t 15)))), 
  (.mk (some 16) none (.pure (.ext 0 (.t 14)))), 
  (.mk (some 17) none (.pure (.ext 1 (.t 14)))), 
  (.mk (some 3) none (.pure (.mv (.t 16)))), 
  (.mk (some 4) none (.pure (.mv (.t 17))))]) (.seq (.ops [
  (.mk (some 19) none (.call 28 [(.c (.i .i64 30))])), 
  (.mk (some 18) none (.pure (.mv (.t 19)))), 
  (.mk (some 20) none (.pure (.ext 0 (.t 18)))), 
  (.mk (some 21) none (.pure (.ext 1 (.t 18)))), 
  (.mk (some 5) none (.pure (.mv (.t 20)))), 
  (.mk (some 6) none (.pure (.mv (.t 21))))]) (.seq (.ops [
  (.mk (some 23) none (.call 36 [(.c (.i .i64 110))])), 
  (.mk (some 22) none (.pure (.mv (.t 23)))), 
  (.mk (some 24) none (.pure (.ext 0 (.t 22)))), 
  (.mk (some 25) none (.pure (.ext 1 (.t 22)))), 
  (.mk (some 26) none (.pure (.ext 2 (.t 22)))), 
  (.mk (some 7) none (.pure (.mv (.t 24)))), 
  (.mk (some 8) none (.pure (.mv (.t 25)))), 
  (.mk (some 9) none (.pure (.mv (.t 26))))]) (.seq (.ops [
  (.mk (some 27) none (.pure (.mv (.t 2)))), 
  (.mk (some 28) none (.pure (.bin .eql (.t 27) (.c (.i .i64 0))))), 
  (.mk (some 29) none (.pure (.mv (.t 28)))), 
  (.mk (some 30) (some (29, true)) (.pure (.mv (.t 1)))), 
  (.mk (some 31) (some (29, true)) (.pure (.sbin .eql (.t 30) (.c (.s [49, 48, 49]))))), 
  (.mk (some 32) none (.pure (.pick (.t 29) (.t 31) (.c (.b false))))), 
  (.mk (some 33) none (.pure (.mv (.t 32)))), 
  (.mk (some 34) (some (33, true)) (.pure (.mv (.t 4)))), 
  (.mk (some 35) (some (33, true)) (.pure (.bin .eql (.t 34) (.c (.i .i64 0))))), 
  (.mk (some 36) none (.pure (.pick (.t 33) (.t 35) (.c (.b false))))), 
  (.mk (some 37) none (.pure (.mv (.t 36)))), 
  (.mk (some 38) (some (37, true)) (.pure (.mv (.t 3)))), 
  (.mk (some 39) (some (37, true)) (.pure (.sbin .eql (.t 38) (.c (.s [48, 49, 48, 49, 48]))))), 
  (.mk (some 40) none (.pure (.pick (.t 37) (.t 39) (.c (.b false))))), 
  (.mk (some 41) none (.pure (.mv (.t 40)))), 
  (.mk (some 42) (some (41, true)) (.pure (.mv (.t 6)))), 
  (.mk (some 43) (some (41, true)) (.pure (.bin .eql (.t 42) (.c (.i .i64 0))))), 
  (.mk (some 44) none (.pure (.pick (.t 41) (.t 43) (.c (.b false))))), 
  (.mk (some 45) none (.pure (.mv (.t 44)))), 
  (.mk (some 46) (some (45, true)) (.pure (.mv (.t 5)))), 
  (.mk (some 47) none (.pure (.pick (.t 45) (.t 46) (.c (.b false))))), 
  (.mk (some 48) none (.pure (.mv (.t 47)))), 
  (.mk (some 49) (some (48, true)) (.pure (.mv (.t 9)))), 
  (.mk (some 50) (some (48, true)) (.pure (.bin .eql (.t 49) (.c (.i .i64 0))))), 
  (.mk (some 51) none (.pure (.pick (.t 48) (.t 50) (.c (.b false))))), 
  (.mk (some 52) none (.pure (.mv (.t 51)))), 
  (.mk (some 53) (some (52, true)) (.pure (.mv (.t 7)))), 
  (.mk (some 54) (some (52, true)) (.pure (.bin .eql (.t 53) (.c (.i .i64 124))))), 
  (.mk (some 55) none (.pure (.pick (.t 52) (.t 54) (.c (.b false))))), 
  (.mk (some 56) none (.pure (.mv (.t 55)))), 
  (.mk (some 57) (some (56, true)) (.pure (.mv (.t 8)))), 
  (.mk (some 58) (some (56, true)) (.pure (.bin .eql (.t 57) (.c (.i .i64 137))))), 
  (.mk (some 59) none (.pure (.pick (.t 56) (.t 58) (.c (.b false))))), 
  (.mk (some 0) none (.pure (.mv (.t 59))))]) .ret)))))))
def fn16 : AFn := (AFn.mk 23 [(.t 4), (.t 5)] (.seq (.ops [
  (.mk (some 4) none (.pure (.mv (.c (.s []))))), 
  (.mk (some 5) none (.pure (.mv (.c (.i .i64 0)))))]) (.seq (.ops [
  (.mk (some 9) none (.pure (.mv (.t 0)))), 
  (.mk (some 10) none (.pure (.mv (.t 1)))), 
  (.mk (some 11) none (.call 45 [(.t 9), (.t 10)])), 
  (.mk (some 8) none (.pure (.mv (.t 11)))), 
  (.mk (some 12) none (.pure (.ext 0 (.t 8)))), 
  (.mk (some 13) none (.pure (.ext 1 (.t 8)))), 
  (.mk (some 6) none (.pure (.mv (.t 12)))), 
  (.mk (some 7) none (.pure (.mv (.t 13))))]) (.seq (.seq (.ops [
  (.mk (some 14) none (.pure (.mv (.t 7)))), 
  (.mk (some 15) none (.pure (.bin .neq (.t 14) (.c (.i .i64 0)))))]) (.cond (.t 15) (.seq (.ops [
  (.mk (some 16) none (.pure (.mv (.t 7)))), 
  (.mk (some 4) none (.pure (.mv (.c (.s []))))), 
  (.mk (some 5) none (.pure (.mv (.t 16))))]) .ret) .skip)) (.seq (.seq (.ops [
  (.mk (some 17) none (.pure (.mv (.t 1)))), 
  (.mk (some 18) none (.pure (.len true (.t 17)))), 
  (.mk (some 19) none (.pure (.bin .lss (.t 18) (.c (.i .i64 3)))))]) (.cond (.t 19) (.seq (.ops [
  (.mk (some 4) none (.pure (.mv (.c (.s []))))), 
  (.mk (some 5) none (.pure (.mv (.c (.i .i64 5)))))]) .ret) .skip)) (.seq (.ops [
  (.mk (some 20) none (.pure (.mv (.t 6)))), 
  (.mk (some 21) none (.pure (.mv (.t 1)))), 
  (.mk (some 22) none (.call 46 [(.t 20), (.t 21)])), 
  (.mk (some 4) none (.pure (.mv (.t 22)))), 
  (.mk (some 5) none (.pure (.mv (.c (.i .i64 0)))))]) .ret))))))
def fn18 : AFn := (AFn.mk 33 [(.t 6), (.t 7)] (.seq (.ops [
  (.mk (some 6) none (.pure (.mv (.c (.s []))))), 
  (.mk (some 7) none (.pure (.mv (.c (.i .i64 0)))))]) (.seq (.ops [
  (.mk (some 11) none (.pure (.mv (.t 0)))), 
  (.mk (some 12) none (.pure (.mv (.t 1)))), 
  (.mk (some 13) none (.call 45 [(.t 11), (.t 12)])), 
  (.mk (some 10) none (.pure (.mv (.t 13)))), 
  (.mk (some 14) none (.pure (.ext 0 (.t 10)))), 
  (.mk (some 15) none (.pure (.ext 1 (.t 10)))), 
  (.mk (some 8) none (.pure (.mv (.t 14)))), 
  (.mk (some 9) none (.pure (.mv (.t 15))))]) (.seq (.seq (.ops [
  (.mk (some 16) none (.pure (.mv (.t 9)))), 
  (.mk (some 17) none (.pure (.bin .neq (.t 16) (.c (.i .i64 0)))))]) (.cond (.t 17) (.seq (.ops [
  (.mk (some 18) none (.pure (.mv (.t 9)))), 
  (.mk (some 6) none (.pure (.mv (.c (.s []))))), 
  (.mk (some 7) none (.pure (.mv (.t 18))))]) .ret) .skip)) (.seq (.seq (.ops [
  (.mk (some 19) none (.pure (.mv (.t 2)))), 
  (.mk (some 20) none (.pure (.bin .lss (.t 19) (.c (.i .i64 0))))), 
  (.mk (some 21) none (.pure (.mv (.t 20)))), 
  (.mk (some 22) (some (21, false)) (.pure (.mv (.t 2)))), 
  (.mk (some 23) (some (21, false)) (.pure (.bin .gtr (.t 22) (.c (.i .i64 1000))))), 
  (.mk (some 24) none (.pure (.pick (.t 21) (.c (.b true)) (.t 23))))]) (.cond (.t 24) (.seq (.ops [
  (.mk (some 6) none (.pure (.mv (.c (.s []))))), 
  (.mk (some 7) none (.pure (.mv (.c (.i .i64 3)))))]) .ret) .skip)) (.seq (.seq (.ops [
  (.mk (some 25) none (.pure (.mv (.t 2)))), 
  (.mk (some 26) none (.pure (.mv (.c (.i .i64 0)))))]) (.block 0 (.loop (.seq (.ops [
  (.mk (some 27) none (.pure (.bin .lss (.t 26) (.t 25))))]) (.seq (.cond (.t 27) .skip (.exit 0)) (.seq (.block 1 (.ops [
  (.mk (some 28) none (.pure (.mv (.t 8)))), 
  (.mk (some 29) none (.pure (.mv (.t 1)))), 
  (.mk (some 30) none (.call 51 [(.t 28), (.t 29)])), 
  (.mk (some 1) none (.pure (.mv (.t 30))))])) (.ops [
  (.mk (some 31) none (.pure (.bin .add (.t 26) (.c (.i .i64 1))))), 
  (.mk (some 26) none (.pure (.mv (.t 31))))]))))))) (.seq (.ops [
  (.mk (some 32) none (.pure (.mv (.t 1)))), 
  (.mk (some 6) none (.pure (.mv (.t 32)))), 
  (.mk (some 7) none (.pure (.mv (.c (.i .i64 0)))))]) .ret)))))))
def fn20 : AFn := (AFn.mk 35 [(.t 4), (.t 5)] (.seq (.ops [
  (.mk (some 4) none (.pure (.mv (.c (.s []))))), 
  (.mk (some 5) none (.pure (.mv (.c (.i .i64 0)))))]) (.seq (.ops [
  (.mk (some 11) none (.pure (.mv (.t 0)))), 
  (.mk (some 12) none (.pure (.mv (.t 1)))), 
  (.mk (some 13) none (.call 45 [(.t 11), (.t 12)])), 
  (.mk (some 10) none (.pure (.mv (.t 13)))), 
  (.mk (some 14) none (.pure (.ext 0 (.t 10)))), 
  (.mk (some 15) none (.pure (.ext 1 (.t 10)))), 
  (.mk (some 6) none (.pure (.mv (.t 14)))), 
  (.mk (some 7) none (.pure (.mv (.t 15))))]) (.seq (.seq (.ops [
  (.mk (some 16) none (.pure (.mv (.t 7)))), 
  (.mk (some 17) none (.pure (.bin .neq (.t 16) (.c (.i .i64 2))))), 
  (.mk (some 18) none (.pure (.mv (.t 17)))), 
  (.mk (some 19) (some (18, true)) (.pure (.mv (.t 1)))), 
  (.mk (some 20) (some (18, true)) (.pure (.len true (.t 19)))), 
  (.mk (some 21) (some (18, true)) (.pure (.bin .gtr (.t 20) (.c (.i .i64 398))))), 
  (.mk (some 22) none (.pure (.pick (.t 18) (.t 21) (.c (.b false)))))]) (.cond (.t 22) (.seq (.ops [
  (.mk (some 4) none (.pure (.mv (.c (.s []))))), 
  (.mk (some 5) none (.pure (.mv (.c (.i .i64 3)))))]) .ret) .skip)) (.seq (.seq (.ops [
  (.mk (some 23) none (.pure (.mv (.t 7)))), 
  (.mk (some 24) none (.pure (.bin .neq (.t 23) (.c (.i .i64 0)))))]) (.cond (.t 24) (.seq (.ops [
  (.mk (some 25) none (.pure (.mv (.t 7)))), 
  (.mk (some 4) none (.pure (.mv (.c (.s []))))), 
  (.mk (some 5) none (.pure (.mv (.t 25))))]) .ret) .skip)) (.seq (.ops [
  (.mk (some 27) none (.pure (.mv (.t 6)))), 
  (.mk (some 28) none (.pure (.mv (.t 1)))), 
  (.mk (some 29) none (.call 53 [(.t 27), (.t 28)])), 
  (.mk (some 26) none (.pure (.mv (.t 29)))), 
  (.mk (some 30) none (.pure (.ext 0 (.t 26)))), 
  (.mk (some 31) none (.pure (.ext 1 (.t 26)))), 
  (.mk (some 8) none (.pure (.mv (.t 30)))), 
  (.mk (some 9) none (.pure (.mv (.t 31))))]) (.seq (.seq (.ops [
  (.mk (some 32) none (.pure (.mv (.t 9)))), 
  (.mk (some 33) none (.pure (.not (.t 32))))]) (.cond (.t 33) (.seq (.ops [
  (.mk (some 4) none (.pure (.mv (.c (.s []))))), 
  (.mk (some 5) none (.pure (.mv (.c (.i .i64 10)))))]) .ret) .skip)) (.seq (.ops [
  (.mk (some 34) none (.pure (.mv (.t 8)))), 
  (.mk (some 4) none (.pure (.mv (.t 34)))), 
  (.mk (some 5) none (.pure (.mv (.c (.i .i64 0)))))]) .ret))))))))
def fn26 : AFn := (AFn.mk 34 [(.t 4), (.t 5)] (.seq (.ops [
  (.mk (some 4) none (.pure (.mv (.c (.s []))))), 
  (.mk (some 5) none (.pure (.mv (.c (.i .i64 0)))))]) (.seq (.ops [
  (.mk (some 10) none (.pure (.mv (.t 0)))), 
  (.mk (some 11) none (.call 61 [(.t 10)])), 
  (.mk (some 9) none (.pure (.mv (.t 11)))), 
  (.mk (some 12) none (.pure (.ext 0 (.t 9)))), 
  (.mk (some 13) none (.pure (.ext 1 (.t 9)))), 
  (.mk (some 6) none (.pure (.mv (.t 12)))), 
  (.mk (some 7) none (.pure (.mv (.t 13))))]) (.seq (.seq (.ops [
  (.mk (some 14) none (.pure (.mv (.t 7)))), 
  (.mk (some 15) none (.pure (.bin .neq (.t 14) (.c (.i .i64 0)))))]) (.cond (.t 15) (.seq (.ops [
  (.mk (some 16) none (.pure (.mv (.t 7)))), 
  (.mk (some 4) none (.pure (.mv (.c (.s []))))), 
  (.mk (some 5) none (.pure (.mv (.t 16))))]) .ret) .skip)) (.seq (.seq (.ops [
  (.mk (some 17) none (.pure (.mv (.t 1)))), 
  (.mk (some 18) none (.pure (.bin .lss (.t 17) (.c (.i .i64 1))))), 
  (.mk (some 19) none (.pure (.mv (.t 18)))), 
  (.mk (some 20) (some (19, false)) (.pure (.mv (.t 1)))), 
  (.mk (some 21) (some (19, false)) (.pure (.bin .gtr (.t 20) (.c (.i .i64 20))))), 
  (.mk (some 22) none (.pure (.pick (.t 19) (.c (.b true)) (.t 21))))]) (.cond (.t 22) (.seq (.ops [
  (.mk (some 4) none (.pure (.mv (.c (.s []))))), 
  (.mk (some 5) none (.pure (.mv (.c (.i .i64 2)))))]) .ret) .skip)) (.seq (.ops [
  (.mk (some 23) none (.pure (.mv (.t 6)))), 
  (.mk (some 24) none (.call 62 [(.t 23)])), 
  (.mk (some 8) none (.pure (.mv (.t 24))))]) (.seq (.seq (.ops [
  (.mk (some 25) none (.pure (.mv (.t 8)))), 
  (.mk (some 26) none (.pure (.sbin .eql (.t 25) (.c (.s []))))), 
  (.mk (some 27) none (.pure (.mv (.t 26)))), 
  (.mk (some 28) (some (27, false)) (.pure (.mv (.t 8)))), 
  (.mk (some 29) (some (27, false)) (.pure (.len true (.t 28)))), 
  (.mk (some 30) (some (27, false)) (.pure (.mv (.t 1)))), 
  (.mk (some 31) (some (27, false)) (.pure (.bin .gtr (.t 29) (.t 30)))), 
  (.mk (some 32) none (.pure (.pick (.t 27) (.c (.b true)) (.t 31))))]) (.cond (.t 32) (.seq (.ops [
  (.mk (some 4) none (.pure (.mv (.c (.s []))))), 
  (.mk (some 5) none (.pure (.mv (.c (.i .i64 10)))))]) .ret) .skip)) (.seq (.ops [
  (.mk (some 33) none (.pure (.mv (.t 8)))), 
  (.mk (some 4) none (.pure (.mv (.t 33)))), 
  (.mk (some 5) none (.pure (.mv (.c (.i .i64 0)))))]) .ret))))))))
def fn28 : AFn := (AFn.mk 17 [(.t 2), (.t 3)] (.seq (.ops [
  (.mk (some 2) none (.pure (.mv (.c (.b false))))), 
  (.mk (some 3) none (.pure (.mv (.c (.i .i64 0)))))]) (.seq (.ops [
  (.mk (some 7) none (.pure (.mv (.t 0)))), 
  (.mk (some 8) none (.call 61 [(.t 7)])), 
  (.mk (some 6) none (.pure (.mv (.t 8)))), 
  (.mk (some 9) none (.pure (.ext 0 (.t 6)))), 
  (.mk (some 10) none (.pure (.ext 1 (.t 6)))), 
  (.mk (some 4) none (.pure (.mv (.t 9)))), 
  (.mk (some 5) none (.pure (.mv (.t 10))))]) (.seq (.seq (.ops [
  (.mk (some 11) none (.pure (.mv (.t 5)))), 
  (.mk (some 12) none (.pure (.bin .neq (.t 11) (.c (.i .i64 0)))))]) (.cond (.t 12) (.seq (.ops [
  (.mk (some 13) none (.pure (.mv (.t 5)))), 
  (.mk (some 2) none (.pure (.mv (.c (.b false))))), 
  (.mk (some 3) none (.pure (.mv (.t 13))))]) .ret) .skip)) (.seq (.ops [
  (.mk (some 14) none (.pure (.mv (.t 4)))), 
  (.mk (some 15) none (.call 62 [(.t 14)])), 
  (.mk (some 16) none (.pure (.sbin .eql (.t 15) (.c (.s []))))), 
  (.mk (some 2) none (.pure (.mv (.t 16)))), 
  (.mk (some 3) none (.pure (.mv (.c (.i .i64 0)))))]) .ret)))))
def fn30 : AFn := (AFn.mk 16 [(.t 2), (.t 3)] (.seq (.ops [
  (.mk (some 2) none (.pure (.mv (.c (.b false))))), 
  (.mk (some 3) none (.pure (.mv (.c (.i .i64 0)))))]) (.seq (.ops [
  (.mk (some 7) none (.pure (.mv (.t 0)))), 
  (.mk (some 8) none (.call 61 [(.t 7)])), 
  (.mk (some 6) none (.pure (.mv (.t 8)))), 
  (.mk (some 9) none (.pure (.ext 0 (.t 6)))), 
  (.mk (some 10) none (.pure (.ext 1 (.t 6)))), 
  (.mk (some 4) none (.pure (.mv (.t 9)))), 
  (.mk (some 5) none (.pure (.mv (.t 10))))]) (.seq (.seq (.ops [
  (.mk (some 11) none (.pure (.mv (.t 5)))), 
  (.mk (some 12) none (.pure (.bin .neq (.t 11) (.c (.i .i64 0)))))]) (.cond (.t 12) (.seq (.ops [
  (.mk (some 13) none (.pure (.mv (.t 5)))), 
  (.mk (some 2) none (.pure (.mv (.c (.b false))))), 
  (.mk (some 3) none (.pure (.mv (.t 13))))]) .ret) .skip)) (.seq (.ops [
  (.mk (some 14) none (.pure (.mv (.t 4)))), 
  (.mk (some 15) none (.call 64 [(.t 14)])), 
  (.mk (some 2) none (.pure (.mv (.t 15)))), 
  (.mk (some 3) none (.pure (.mv (.c (.i .i64 0)))))]) .ret)))))
def fn31 : AFn := (AFn.mk 9 [(.t 2), (.t 3)] (.seq (.ops [
  (.mk (some 2) none (.pure (.mv (.c (.b false))))), 
  (.mk (some 3) none (.pure (.mv (.c (.i .i64 0)))))]) (.seq (.seq (.ops [
  (.mk (some 4) none (.pure (.mv (.t 0)))), 
  (.mk (some 5) none (.call 54 [(.t 4)])), 
  (.mk (some 6) none (.pure (.not (.t 5))))]) (.cond (.t 6) (.seq (.ops [
  (.mk (some 2) none (.pure (.mv (.c (.b false))))), 
  (.mk (some 3) none (.pure (.mv (.c (.i .i64 2)))))]) .ret) .skip)) (.seq (.ops [
  (.mk (some 7) none (.pure (.mv (.t 0)))), 
  (.mk (some 8) none (.call 65 [(.t 7)])), 
  (.mk (some 2) none (.pure (.mv (.t 8)))), 
  (.mk (some 3) none (.pure (.mv (.c (.i .i64 0)))))]) .ret))))
def fn32 : AFn := (AFn.mk 33 [(.t 2), (.t 3), (.t 4)] (.seq (.ops [
  (.mk (some 2) none (.pure (.mv (.c (.s []))))), 
  (.mk (some 3) none (.pure (.mv (.c (.s []))))), 
  (.mk (some 4) none (.pure (.mv (.c (.i .i64 0)))))]) (.seq (.ops [
  (.mk (some 12) none (.pure (.mv (.t 0)))), 
  (.mk (some 13) none (.call 61 [(.t 12)])), 
  (.mk (some 11) none (.pure (.mv (.t 13)))), 
  (.mk (some 14) none (.pure (.ext 0 (.t 11)))), 
  (.mk (some 15) none (.pure (.ext 1 (.t 11)))), 
  (.mk (some 5) none (.pure (.mv (.t 14)))), 
  (.mk (some 6) none (.pure (.mv (.t 15))))]) (.seq (.seq (.ops [
  (.mk (some 16) none (.pure (.mv (.t 6)))), 
  (.mk (some 17) none (.pure (.bin .neq (.t 16) (.c (.i .i64 0)))))]) (.cond (.t 17) (.seq (.ops [
  (.mk (some 18) none (.pure (.mv (.t 6)))), 
  (.mk (some 2) none (.pure (.mv (.c (.s []))))), 
  (.mk (some 3) none (.pure (.mv (.c (.s []))))), 
  (.mk (some 4) none (.pure (.mv (.t 18))))]) .ret) .skip)) (.seq (.seq (.ops [
  (.mk (some 19) none (.pure (.mv (.t 5)))), 
  (.mk (some 20) none (.call 64 [(.t 19)]))]) (.cond (.t 20) (.seq (.ops [
  (.mk (some 2) none (.pure (.mv (.c (.s []))))), 
  (.mk (some 3) none (.pure (.mv (.c (.s []))))), 
  (.mk (some 4) none (.pure (.mv (.c (.i .i64 10)))))]) .ret) .skip)) (.seq (.ops [
  (.mk (some 7) none (.pure (.mv (.c (.i .i64 1)))))]) (.block 0 (.loop (.seq (.block 1 (.seq (.ops [
  (.mk (some 24) none (.pure (.mv (.t 5)))), 
  (.mk (some 25) none (.pure (.mv (.t 7)))), 
  (.mk (some 26) none (.call 66 [(.t 24), (.t 25)])), 
  (.mk (some 23) none (.pure (.mv (.t 26)))), 
  (.mk (some 27) none (.pure (.ext 0 (.t 23)))), 
  (.mk (some 28) none (.pure (.ext 1 (.t 23)))), 
  (.mk (some 29) none (.pure (.ext 2 (.t 23)))), 
  (.mk (some 8) none (.pure (.mv (.t 27)))), 
  (.mk (some 9) none (.pure (.mv (.t 28)))), 
  (.mk (some 10) none (.pure (.mv (.t 29))))]) (.seq (.ops [
  (.mk (some 30) none (.pure (.mv (.t 10))))]) (.cond (.t 30) (.seq (.ops [
  (.mk (some 31) none (.pure (.mv (.t 8)))), 
  (.mk (some 32) none (.pure (.mv (.t 9)))), 
  (.mk (some 2) none (.pure (.mv (.t 31)))), 
  (.mk (some 3) none (.pure (.mv (.t 32)))), 
  (.mk (some 4) none (.pure (.mv (.c (.i .i64 0)))))]) .ret) .skip)))) (.ops [
  (.mk (some 21) none (.pure (.mv (.t 7)))), 
  (.mk (some 22) none (.pure (.bin .add (.t 21) (.c (.i .i64 1))))), 
  (.mk (some 7) none (.pure (.mv (.t 22))))]))))))))))
def fn33 : AFn := (AFn.mk 70 [(.t 2), (.t 3), (.t 4)] (.seq (.ops [
  (.mk (some 2) none (.pure (.mv (.c (.s []))))), 
  (.mk (some 3) none (.pure (.mv (.c (.s []))))), 
  (.mk (some 4) none (.pure (.mv (.c (.i .i64 0)))))]) (.seq (.seq (.ops [
  (.mk (some 11) none (.pure (.mv (.t 0)))), 
  (.mk (some 12) none (.call 54 [(.t 11)])), 
  (.mk (some 13) none (.pure (.not (.t 12))))]) (.cond (.t 13) (.seq (.ops [
  (.mk (some 2) none (.pure (.mv (.c (.s []))))), 
  (.mk (some 3) none (.pure (.mv (.c (.s []))))), 
  (.mk (some 4) none (.pure (.mv (.c (.i .i64 2)))))]) .ret) .skip)) (.seq (.seq (.ops [
  (.mk (some 14) none (.pure (.mv (.t 0)))), 
  (.mk (some 15) none (.call 65 [(.t 14)]))]) (.cond (.t 15) (.seq (.ops [
  (.mk (some 2) none (.pure (.mv (.c (.s []))))), 
  (.mk (some 3) none (.pure (.mv (.c (.s []))))), 
  (.mk (some 4) none (.pure (.mv (.c (.i .i64 10)))))]) .ret) .skip)) (.seq (.ops [
  (.mk (some 5) none (.pure (.mv (.c (.i .i64 1)))))]) (.block 0 (.loop (.seq (.block 1 (.seq (.ops [
  (.mk (some 18) none (.pure (.mv (.t 5)))), 
  (.mk (some 19) none (.pure (.bin .shl (.c (.i .i64 1)) (.t 18)))), 
  (.mk (some 20) none (.mk 3 1 8 [(.i .i64 0)] (.t 19) (.t 19))), 
  (.mk (some 6) none (.pure (.mv (.t 20))))]) (.seq (.ops [
  (.mk (some 7) none (.pure (.mv (.c (.i .i64 (-1)))))), 
  (.mk (some 8) none (.pure (.mv (.c (.i .i64 (-1))))))]) (.seq (.seq (.ops [
  (.mk (some 9) none (.pure (.mv (.c (.i .i64 0)))))]) (.block 2 (.loop (.seq (.seq (.ops [
  (.mk (some 21) none (.pure (.mv (.t 9)))), 
  (.mk (some 22) none (.pure (.mv (.t 5)))), 
  (.mk (some 23) none (.pure (.bin .shl (.c (.i .i64 1)) (.t 22)))), 
  (.mk (some 24) none (.pure (.bin .lss (.t 21) (.t 23))))]) (.cond (.t 24) .skip (.exit 2))) (.seq (.block 3 (.seq (.ops [
  (.mk (some 27) none (.pure (.mv (.t 0)))), 
  (.mk (some 28) none (.pure (.mv (.t 9)))), 
  (.mk (some 29) none (.pure (.mv (.t 5)))), 
  (.mk (some 30) none (.call 68 [(.t 28), (.t 29)])), 
  (.mk (some 31) none (.call 52 [(.t 27), (.t 30)])), 
  (.mk (some 32) none (.call 67 [(.t 31)])), 
  (.mk (some 10) none (.pure (.mv (.t 32))))]) (.seq (.ops [
  (.mk (some 33) none (.pure (.mv (.t 6)))), 
  (.mk (some 34) none (.pure (.mv (.t 10)))), 
  (.mk (some 35) none (.pure (.ixS 1 (.t 33) (.t 34)))), 
  (.mk (some 36) none (.ld true 1 (.t 35))), 
  (.mk (some 37) none (.pure (.bin .eql (.t 36) (.c (.i .i64 0)))))]) (.cond (.t 37) (.ops [
  (.mk (some 38) none (.pure (.mv (.t 6)))), 
  (.mk (some 39) none (.pure (.mv (.t 10)))), 
  (.mk (some 40) none (.pure (.mv (.t 9)))), 
  (.mk (some 41) none (.pure (.bin .add (.t 40) (.c (.i .i64 1))))), 
  (.mk (some 42) none (.pure (.ixS 1 (.t 38) (.t 39)))), 
  (.mk none none (.st 1 (.t 42) (.t 41)))]) (.seq (.ops [
  (.mk (some 43) none (.pure (.mv (.t 7)))), 
  (.mk (some 44) none (.pure (.bin .lss (.t 43) (.c (.i .i64 0))))), 
  (.mk (some 45) none (.pure (.mv (.t 44)))), 
  (.mk (some 46) (some (45, false)) (.pure (.mv (.t 6)))), 
  (.mk (some 47) (some (45, false)) (.pure (.mv (.t 10)))), 
  (.mk (some 48) (some (45, false)) (.pure (.ixS 1 (.t 46) (.t 47)))), 
  (.mk (some 49) (some (45, false)) (.ld true 1 (.t 48))), 
  (.mk (some 50) (some (45, false)) (.pure (.bin .sub (.t 49) (.c (.i .i64 1))))), 
  (.mk (some 51) (some (45, false)) (.pure (.mv (.t 7)))), 
  (.mk (some 52) (some (45, false)) (.pure (.bin .lss (.t 50) (.t 51)))), 
  (.mk (some 53) none (.pure (.pick (.t 45) (.c (.b true)) (.t 52))))]) (.cond (.t 53) (.seq (.ops [
  (.mk (some 54) none (.pure (.mv (.t 6)))), 
  (.mk (some 55) none (.pure (.mv (.t 10)))), 
  (.mk (some 56) none (.pure (.ixS 1 (.t 54) (.t 55)))), 
  (.mk (some 57) none (.ld true 1 (.t 56))), 
  (.mk (some 58) none (.pure (.bin .sub (.t 57) (.c (.i .i64 1))))), 
  (.mk (some 7) none (.pure (.mv (.t 58))))]) (.ops [
  (.mk (some 59) none (.pure (.mv (.t 9)))), 
  (.mk (some 8) none (.pure (.mv (.t 59))))])) .skip)))))) (.ops [
  (.mk (some 25) none (.pure (.mv (.t 9)))), 
  (.mk (some 26) none (.pure (.bin .add (.t 25) (.c (.i .i64 1))))), 
  (.mk (some 9) none (.pure (.mv (.t 26))))])))))) (.seq (.ops [
  (.mk (some 60) none (.pure (.mv (.t 7)))), 
  (.mk (some 61) none (.pure (.bin .geq (.t 60) (.c (.i .i64 0)))))]) (.cond (.t 61) (.seq (.ops [
  (.mk (some 62) none (.pure (.mv (.t 7)))), 
  (.mk (some 63) none (.pure (.mv (.t 5)))), 
  (.mk (some 64) none (.call 68 [(.t 62), (.t 63)])), 
  (.mk (some 65) none (.call 50 [(.t 64)])), 
  (.mk (some 66) none (.pure (.mv (.t 8)))), 
  (.mk (some 67) none (.pure (.mv (.t 5)))), 
  (.mk (some 68) none (.call 68 [(.t 66), (.t 67)])), 
  (.mk (some 69) none (.call 50 [(.t 68)])), 
  (.mk (some 2) none (.pure (.mv (.t 65)))), 
  (.mk (some 3) none (.pure (.mv (.t 69)))), 
  (.mk (some 4) none (.pure (.mv (.c (.i .i64 0)))))]) .ret) .skip)))))) (.ops [
  (.mk (some 16) none (.pure (.mv (.t 5)))), 
  (.mk (some 17) none (.pure (.bin .add (.t 16) (.c (.i .i64 1))))), 
  (.mk (some 5) none (.pure (.mv (.t 17))))])))))))))
def fn36 : AFn := (AFn.mk 26 [(.t 2), (.t 3), (.t 4)] (.seq (.ops [
  (.mk (some 2) none (.pure (.mv (.c (.i .i64 0))))), 
  (.mk (some 3) none (.pure (.mv (.c (.i .i64 0))))), 
  (.mk (some 4) none (.pure (.mv (.c (.i .i64 0)))))]) (.seq (.ops [
  (.mk (some 10) none (.pure (.mv (.t 0)))), 
  (.mk (some 11) none (.call 61 [(.t 10)])), 
  (.mk (some 9) none (.pure (.mv (.t 11)))), 
  (.mk (some 12) none (.pure (.ext 0 (.t 9)))), 
  (.mk (some 13) none (.pure (.ext 1 (.t 9)))), 
  (.mk (some 5) none (.pure (.mv (.t 12)))), 
  (.mk (some 6) none (.pure (.mv (.t 13))))]) (.seq (.seq (.ops [
  (.mk (some 14) none (.pure (.mv (.t 6)))), 
  (.mk (some 15) none (.pure (.bin .neq (.t 14) (.c (.i .i64 0)))))]) (.cond (.t 15) (.seq (.ops [
  (.mk (some 16) none (.pure (.mv (.t 6)))), 
  (.mk (some 2) none (.pure (.mv (.c (.i .i64 0))))), 
  (.mk (some 3) none (.pure (.mv (.c (.i .i64 0))))), 
  (.mk (some 4) none (.pure (.mv (.t 16))))]) .ret) .skip)) (.seq (.ops [
  (.mk (some 18) none (.pure (.mv (.t 5)))), 
  (.mk (some 19) none (.call 69 [(.t 18)])), 
  (.mk (some 17) none (.pure (.mv (.t 19)))), 
  (.mk (some 20) none (.pure (.ext 0 (.t 17)))), 
  (.mk (some 21) none (.pure (.ext 1 (.t 17)))), 
  (.mk (some 7) none (.pure (.mv (.t 20)))), 
  (.mk (some 8) none (.pure (.mv (.t 21))))]) (.seq (.ops [
  (.mk (some 22) none (.pure (.mv (.t 7)))), 
  (.mk (some 23) none (.pure (.conv .i64 (.t 22)))), 
  (.mk (some 24) none (.pure (.mv (.t 8)))), 
  (.mk (some 25) none (.pure (.conv .i64 (.t 24)))), 
  (.mk (some 2) none (.pure (.mv (.t 23)))), 
  (.mk (some 3) none (.pure (.mv (.t 25)))), 
  (.mk (some 4) none (.pure (.mv (.c (.i .i64 0)))))]) .ret))))))
def fn38 : AFn := (AFn.mk 16 [(.t 2), (.t 3)] (.seq (.ops [
  (.mk (some 2) none (.pure (.mv (.c (.b false))))), 
  (.mk (some 3) none (.pure (.mv (.c (.i .i64 0)))))]) (.seq (.ops [
  (.mk (some 7) none (.pure (.mv (.t 0)))), 
  (.mk (some 8) none (.call 61 [(.t 7)])), 
  (.mk (some 6) none (.pure (.mv (.t 8)))), 
  (.mk (some 9) none (.pure (.ext 0 (.t 6)))), 
  (.mk (some 10) none (.pure (.ext 1 (.t 6)))), 
  (.mk (some 4) none (.pure (.mv (.t 9)))), 
  (.mk (some 5) none (.pure (.mv (.t 10))))]) (.seq (.seq (.ops [
  (.mk (some 11) none (.pure (.mv (.t 5)))), 
  (.mk (some 12) none (.pure (.bin .neq (.t 11) (.c (.i .i64 0)))))]) (.cond (.t 12) (.seq (.ops [
  (.mk (some 13) none (.pure (.mv (.t 5)))), 
  (.mk (some 2) none (.pure (.mv (.c (.b false))))), 
  (.mk (some 3) none (.pure (.mv (.t 13))))]) .ret) .skip)) (.seq (.ops [
  (.mk (some 14) none (.pure (.mv (.t 4)))), 
  (.mk (some 15) none (.call 70 [(.t 14)])), 
  (.mk (some 2) none (.pure (.mv (.t 15)))), 
  (.mk (some 3) none (.pure (.mv (.c (.i .i64 0)))))]) .ret)))))
def fn41 : AFn := (AFn.mk 26 [(.t 2)] (.seq (.ops [
  (.mk (some 2) none (.pure (.mv (.c (.s [])))))]) (.seq (.ops [
  (.mk (some 5) none (.pure (.mv (.t 0)))), 
  (.mk (some 6) none (.pure (.len true (.t 5)))), 
  (.mk (some 7) none (.mk 5 1 1 [(.i .u8 0)] (.t 6) (.t 6))), 
  (.mk (some 3) none (.pure (.mv (.t 7))))]) (.seq (.seq (.ops [
  (.mk (some 4) none (.pure (.mv (.c (.i .i64 0)))))]) (.block 0 (.loop (.seq (.seq (.ops [
  (.mk (some 8) none (.pure (.mv (.t 4)))), 
  (.mk (some 9) none (.pure (.mv (.t 0)))), 
  (.mk (some 10) none (.pure (.len true (.t 9)))), 
  (.mk (some 11) none (.pure (.bin .lss (.t 8) (.t 10))))]) (.cond (.t 11) .skip (.exit 0))) (.seq (.block 1 (.ops [
  (.mk (some 14) none (.pure (.mv (.t 3)))), 
  (.mk (some 15) none (.pure (.mv (.t 0)))), 
  (.mk (some 16) none (.pure (.len true (.t 15)))), 
  (.mk (some 17) none (.pure (.bin .sub (.t 16) (.c (.i .i64 1))))), 
  (.mk (some 18) none (.pure (.mv (.t 4)))), 
  (.mk (some 19) none (.pure (.bin .sub (.t 17) (.t 18)))), 
  (.mk (some 20) none (.pure (.mv (.t 0)))), 
  (.mk (some 21) none (.pure (.mv (.t 4)))), 
  (.mk (some 22) none (.pure (.ixStr (.t 20) (.t 21)))), 
  (.mk (some 23) none (.pure (.ixS 1 (.t 14) (.t 19)))), 
  (.mk none none (.st 1 (.t 23) (.t 22)))])) (.ops [
  (.mk (some 12) none (.pure (.mv (.t 4)))), 
  (.mk (some 13) none (.pure (.bin .add (.t 12) (.c (.i .i64 1))))), 
  (.mk (some 4) none (.pure (.mv (.t 13))))])))))) (.seq (.ops [
  (.mk (some 24) none (.pure (.mv (.t 3)))), 
  (.mk (some 25) none (.bts (.t 24))), 
  (.mk (some 2) none (.pure (.mv (.t 25))))]) .ret)))))
def fn42 : AFn := (AFn.mk 23 [(.t 2)] (.seq (.ops [
  (.mk (some 2) none (.pure (.mv (.c (.s [])))))]) (.seq (.ops [
  (.mk (some 5) none (.pure (.mv (.t 0)))), 
  (.mk (some 6) none (.pure (.len true (.t 5)))), 
  (.mk (some 7) none (.mk 5 1 1 [(.i .u8 0)] (.t 6) (.t 6))), 
  (.mk (some 3) none (.pure (.mv (.t 7))))]) (.seq (.seq (.ops [
  (.mk (some 4) none (.pure (.mv (.c (.i .i64 0)))))]) (.block 0 (.loop (.seq (.seq (.ops [
  (.mk (some 8) none (.pure (.mv (.t 4)))), 
  (.mk (some 9) none (.pure (.mv (.t 0)))), 
  (.mk (some 10) none (.pure (.len true (.t 9)))), 
  (.mk (some 11) none (.pure (.bin .lss (.t 8) (.t 10))))]) (.cond (.t 11) .skip (.exit 0))) (.seq (.block 1 (.ops [
  (.mk (some 14) none (.pure (.mv (.t 3)))), 
  (.mk (some 15) none (.pure (.mv (.t 4)))), 
  (.mk (some 16) none (.pure (.mv (.t 0)))), 
  (.mk (some 17) none (.pure (.mv (.t 4)))), 
  (.mk (some 18) none (.pure (.ixStr (.t 16) (.t 17)))), 
  (.mk (some 19) none (.pure (.bin .sub (.c (.i .u8 97)) (.t 18)))), 
  (.mk (some 20) none (.pure (.ixS 1 (.t 14) (.t 15)))), 
  (.mk none none (.st 1 (.t 20) (.t 19)))])) (.ops [
  (.mk (some 12) none (.pure (.mv (.t 4)))), 
  (.mk (some 13) none (.pure (.bin .add (.t 12) (.c (.i .i64 1))))), 
  (.mk (some 4) none (.pure (.mv (.t 13))))])))))) (.seq (.ops [
  (.mk (some 21) none (.pure (.mv (.t 3)))), 
  (.mk (some 22) none (.bts (.t 21))), 
  (.mk (some 2) none (.pure (.mv (.t 22))))]) .ret)))))
def fn45 : AFn := (AFn.mk 39 [(.t 4), (.t 5)] (.seq (.ops [
  (.mk (some 4) none (.pure (.mv (.c (.i .u8 0))))), 
  (.mk (some 5) none (.pure (.mv (.c (.i .i64 0)))))]) (.seq (.ops [
  (.mk (some 10) none (.pure (.mv (.t 0)))), 
  (.mk (some 11) none (.call 61 [(.t 10)])), 
  (.mk (some 9) none (.pure (.mv (.t 11)))), 
  (.mk (some 12) none (.pure (.ext 0 (.t 9)))), 
  (.mk (some 13) none (.pure (.ext 1 (.t 9)))), 
  (.mk (some 6) none (.pure (.mv (.t 12)))), 
  (.mk (some 7) none (.pure (.mv (.t 13))))]) (.seq (.seq (.ops [
  (.mk (some 14) none (.pure (.mv (.t 7)))), 
  (.mk (some 15) none (.pure (.bin .neq (.t 14) (.c (.i .i64 0)))))]) (.cond (.t 15) (.seq (.ops [
  (.mk (some 16) none (.pure (.mv (.t 7)))), 
  (.mk (some 4) none (.pure (.mv (.c (.i .u8 0))))), 
  (.mk (some 5) none (.pure (.mv (.t 16))))]) .ret) .skip)) (.seq (.seq (.ops [
  (.mk (some 17) none (.pure (.mv (.t 1)))), 
  (.mk (some 18) none (.pure (.len true (.t 17)))), 
  (.mk (some 19) none (.pure (.bin .gtr (.t 18) (.c (.i .i64 400)))))]) (.cond (.t 19) (.seq (.ops [
  (.mk (some 4) none (.pure (.mv (.c (.i .u8 0))))), 
  (.mk (some 5) none (.pure (.mv (.c (.i .i64 3)))))]) .ret) .skip)) (.seq (.seq (.ops [
  (.mk (some 20) none (.pure (.mv (.t 1)))), 
  (.mk (some 21) none (.pure (.sbin .eql (.t 20) (.c (.s [])))))]) (.cond (.t 21) (.seq (.ops [
  (.mk (some 4) none (.pure (.mv (.c (.i .u8 0))))), 
  (.mk (some 5) none (.pure (.mv (.c (.i .i64 5)))))]) .ret) .skip)) (.seq (.seq (.ops [
  (.mk (some 22) none (.pure (.mv (.t 1)))), 
  (.mk (some 23) none (.pure (.len true (.t 22)))), 
  (.mk (some 24) none (.pure (.mv (.c (.i .i64 0)))))]) (.block 0 (.loop (.seq (.ops [
  (.mk (some 25) none (.pure (.bin .lss (.t 24) (.t 23))))]) (.seq (.cond (.t 25) .skip (.exit 0)) (.seq (.block 1 (.seq (.ops [
  (.mk (some 26) none (.pure (.mv (.t 24)))), 
  (.mk (some 8) none (.pure (.mv (.t 26))))]) (.seq (.ops [
  (.mk (some 27) none (.pure (.mv (.t 1)))), 
  (.mk (some 28) none (.pure (.mv (.t 8)))), 
  (.mk (some 29) none (.pure (.ixStr (.t 27) (.t 28)))), 
  (.mk (some 30) none (.pure (.bin .neq (.t 29) (.c (.i .u8 48))))), 
  (.mk (some 31) none (.pure (.mv (.t 30)))), 
  (.mk (some 32) (some (31, true)) (.pure (.mv (.t 1)))), 
  (.mk (some 33) (some (31, true)) (.pure (.mv (.t 8)))), 
  (.mk (some 34) (some (31, true)) (.pure (.ixStr (.t 32) (.t 33)))), 
  (.mk (some 35) (some (31, true)) (.pure (.bin .neq (.t 34) (.c (.i .u8 49))))), 
  (.mk (some 36) none (.pure (.pick (.t 31) (.t 35) (.c (.b false)))))]) (.cond (.t 36) (.seq (.ops [
  (.mk (some 4) none (.pure (.mv (.c (.i .u8 0))))), 
  (.mk (some 5) none (.pure (.mv (.c (.i .i64 5)))))]) .ret) .skip)))) (.ops [
  (.mk (some 37) none (.pure (.bin .add (.t 24) (.c (.i .i64 1))))), 
  (.mk (some 24) none (.pure (.mv (.t 37))))]))))))) (.seq (.ops [
  (.mk (some 38) none (.pure (.mv (.t 6)))), 
  (.mk (some 4) none (.pure (.mv (.t 38)))), 
  (.mk (some 5) none (.pure (.mv (.c (.i .i64 0)))))]) .ret))))))))
def fn46 : AFn := (AFn.mk 43 [(.t 4)] (.seq (.ops [
  (.mk (some 4) none (.pure (.mv (.c (.s [])))))]) (.seq (.ops [
  (.mk (some 7) none (.pure (.mv (.t 1)))), 
  (.mk (some 8) none (.pure (.len true (.t 7)))), 
  (.mk (some 9) none (.pure (.bin .sub (.t 8) (.c (.i .i64 2))))), 
  (.mk (some 10) none (.mk 5 1 1 [(.i .u8 0)] (.t 9) (.t 9))), 
  (.mk (some 5) none (.pure (.mv (.t 10))))]) (.seq (.seq (.ops [
  (.mk (some 11) none (.pure (.mv (.t 5)))), 
  (.mk (some 12) none (.pure (.len false (.t 11)))), 
  (.mk (some 13) none (.pure (.mv (.c (.i .i64 0)))))]) (.block 0 (.loop (.seq (.ops [
  (.mk (some 14) none (.pure (.bin .lss (.t 13) (.t 12))))]) (.seq (.cond (.t 14) .skip (.exit 0)) (.seq (.block 1 (.seq (.ops [
  (.mk (some 15) none (.pure (.mv (.t 13)))), 
  (.mk (some 6) none (.pure (.mv (.t 15))))]) (.ops [
  (.mk (some 16) none (.pure (.mv (.t 5)))), 
  (.mk (some 17) none (.pure (.mv (.t 6)))), 
  (.mk (some 18) none (.pure (.mv (.t 0)))), 
  (.mk (some 19) none (.pure (.mv (.t 1)))), 
  (.mk (some 20) none (.pure (.mv (.t 6)))), 
  (.mk (some 21) none (.pure (.ixStr (.t 19) (.t 20)))), 
  (.mk (some 24) none (.pure (.mv (.t 1)))), 
  (.mk (some 25) none (.pure (.mv (.t 6)))), 
  (.mk (some 26) none (.pure (.bin .add (.t 25) (.c (.i .i64 1))))), 
  (.mk (some 27) none (.pure (.ixStr (.t 24) (.t 26)))), 
  (.mk (some 31) none (.pure (.mv (.t 1)))), 
  (.mk (some 32) none (.pure (.mv (.t 6)))), 
  (.mk (some 33) none (.pure (.bin .add (.t 32) (.c (.i .i64 2))))), 
  (.mk (some 34) none (.pure (.ixStr (.t 31) (.t 33)))), 
  (.mk (some 22) none (.call 73 [(.t 21)])), 
  (.mk (some 23) none (.pure (.bin .mul (.c (.i .i64 4)) (.t 22)))), 
  (.mk (some 28) none (.call 73 [(.t 27)])), 
  (.mk (some 29) none (.pure (.bin .mul (.c (.i .i64 2)) (.t 28)))), 
  (.mk (some 30) none (.pure (.bin .add (.t 23) (.t 29)))), 
  (.mk (some 35) none (.call 73 [(.t 34)])), 
  (.mk (some 36) none (.pure (.bin .add (.t 30) (.t 35)))), 
  (.mk (some 37) none (.call 72 [(.t 18), (.t 36)])), 
  (.mk (some 38) none (.call 71 [(.t 37)])), 
  (.mk (some 39) none (.pure (.ixS 1 (.t 16) (.t 17)))), 
  (.mk none none (.st 1 (.t 39) (.t 38)))]))) (.ops [
  (.mk (some 40) none (.pure (.bin .add (.t 13) (.c (.i .i64 1))))), 
  (.mk (some 13) none (.pure (.mv (.t 40))))]))))))) (.seq (.ops [
  (.mk (some 41) none (.pure (.mv (.t 5)))), 
  (.mk (some 42) none (.bts (.t 41))), 
  (.mk (some 4) none (.pure (.mv (.t 42))))]) .ret)))))
def fn49 : AFn := (AFn.mk 19 [(.t 8)] (.seq (.ops [
  (.mk (some 8) none (.pure (.mv (.c (.i .i64 0)))))]) (.seq (.ops [
  (.mk (some 9) none (.pure (.mv (.t 0)))), 
  (.mk (some 10) none (.pure (.mv (.t 1)))), 
  (.mk (some 11) none (.pure (.bin .mul (.c (.i .i64 4)) (.t 10)))), 
  (.mk (some 12) none (.pure (.mv (.t 2)))), 
  (.mk (some 13) none (.pure (.bin .mul (.c (.i .i64 2)) (.t 12)))), 
  (.mk (some 14) none (.pure (.bin .add (.t 11) (.t 13)))), 
  (.mk (some 15) none (.pure (.mv (.t 3)))), 
  (.mk (some 16) none (.pure (.bin .add (.t 14) (.t 15)))), 
  (.mk (some 17) none (.pure (.bin .shr (.t 9) (.t 16)))), 
  (.mk (some 18) none (.pure (.bin .rem (.t 17) (.c (.i .i64 2))))), 
  (.mk (some 8) none (.pure (.mv (.t 18))))]) .ret)))
def fn50 : AFn := (AFn.mk 27 [(.t 2)] (.seq (.ops [
  (.mk (some 2) none (.pure (.mv (.c (.s [])))))]) (.seq (.ops [
  (.mk (some 5) none (.pure (.mv (.t 0)))), 
  (.mk (some 6) none (.pure (.len false (.t 5)))), 
  (.mk (some 7) none (.mk 5 1 1 [(.i .u8 0)] (.t 6) (.t 6))), 
  (.mk (some 3) none (.pure (.mv (.t 7))))]) (.seq (.seq (.ops [
  (.mk (some 4) none (.pure (.mv (.c (.i .i64 0)))))]) (.block 0 (.loop (.seq (.seq (.ops [
  (.mk (some 8) none (.pure (.mv (.t 4)))), 
  (.mk (some 9) none (.pure (.mv (.t 0)))), 
  (.mk (some 10) none (.pure (.len false (.t 9)))), 
  (.mk (some 11) none (.pure (.bin .lss (.t 8) (.t 10))))]) (.cond (.t 11) .skip (.exit 0))) (.seq (.block 1 (.seq (.ops [
  (.mk (some 14) none (.pure (.mv (.t 3)))), 
  (.mk (some 15) none (.pure (.mv (.t 4)))), 
  (.mk (some 16) none (.pure (.ixS 1 (.t 14) (.t 15)))), 
  (.mk none none (.st 1 (.t 16) (.c (.i .u8 48))))]) (.seq (.ops [
  (.mk (some 17) none (.pure (.mv (.t 0)))), 
  (.mk (some 18) none (.pure (.mv (.t 4)))), 
  (.mk (some 19) none (.pure (.ixS 1 (.t 17) (.t 18)))), 
  (.mk (some 20) none (.ld true 1 (.t 19))), 
  (.mk (some 21) none (.pure (.bin .eql (.t 20) (.c (.i .i64 1)))))]) (.cond (.t 21) (.ops [
  (.mk (some 22) none (.pure (.mv (.t 3)))), 
  (.mk (some 23) none (.pure (.mv (.t 4)))), 
  (.mk (some 24) none (.pure (.ixS 1 (.t 22) (.t 23)))), 
  (.mk none none (.st 1 (.t 24) (.c (.i .u8 49))))]) .skip)))) (.ops [
  (.mk (some 12) none (.pure (.mv (.t 4)))), 
  (.mk (some 13) none (.pure (.bin .add (.t 12) (.c (.i .i64 1))))), 
  (.mk (some 4) none (.pure (.mv (.t 13))))])))))) (.seq (.ops [
  (.mk (some 25) none (.pure (.mv (.t 3)))), 
  (.mk (some 26) none (.bts (.t 25))), 
  (.mk (some 2) none (.pure (.mv (.t 26))))]) .ret)))))
def fn51 : AFn := (AFn.mk 17 [(.t 4)] (.seq (.ops [
  (.mk (some 4) none (.pure (.mv (.c (.s [])))))]) (.seq (.ops [
  (.mk (some 5) none (.pure (.mv (.t 0)))), 
  (.mk (some 6) none (.pure (.mv (.t 1)))), 
  (.mk (some 7) none (.pure (.mv (.t 1)))), 
  (.mk (some 8) none (.pure (.len true (.t 7)))), 
  (.mk (some 9) none (.pure (.bin .sub (.t 8) (.c (.i .i64 1))))), 
  (.mk (some 10) none (.pure (.slStr (.t 6) (some (.t 9)) none))), 
  (.mk (some 11) none (.pure (.mv (.t 1)))), 
  (.mk (some 12) none (.pure (.sbin .add (.t 10) (.t 11)))), 
  (.mk (some 13) none (.pure (.mv (.t 1)))), 
  (.mk (some 14) none (.pure (.slStr (.t 13) none (some (.c (.i .i64 1)))))), 
  (.mk (some 15) none (.pure (.sbin .add (.t 12) (.t 14)))), 
  (.mk (some 16) none (.call 46 [(.t 5), (.t 15)])), 
  (.mk (some 4) none (.pure (.mv (.t 16))))]) .ret)))
def fn52 : AFn := (AFn.mk 41 [(.t 4)] (.seq (.ops [
  (.mk (some 4) none (.pure (.mv (.c .nsl))))]) (.seq (.ops [
  (.mk (some 8) none (.pure (.mv (.t 1)))), 
  (.mk (some 9) none (.pure (.len false (.t 8)))), 
  (.mk (some 5) none (.pure (.mv (.t 9))))]) (.seq (.ops [
  (.mk (some 6) none (.pure (.mv (.c .nsl))))]) (.seq (.seq (.ops [
  (.mk (some 7) none (.pure (.mv (.c (.i .i64 0)))))]) (.block 0 (.loop (.seq (.seq (.ops [
  (.mk (some 10) none (.pure (.mv (.t 7)))), 
  (.mk (some 11) none (.pure (.mv (.t 5)))), 
  (.mk (some 12) none (.pure (.bin .lss (.t 10) (.t 11))))]) (.cond (.t 12) .skip (.exit 0))) (.seq (.block 1 (.seq (.ops [
  (.mk (some 15) none (.pure (.mv (.t 6)))), 
  (.mk (some 16) none (.pure (.mv (.t 0)))), 
  (.mk (some 17) none (.pure (.mv (.t 1)))), 
  (.mk (some 18) none (.pure (.mv (.t 7)))), 
  (.mk (some 19) none (.pure (.mv (.t 5)))), 
  (.mk (some 20) none (.pure (.bin .add (.t 18) (.t 19)))), 
  (.mk (some 21) none (.pure (.bin .sub (.t 20) (.c (.i .i64 1))))), 
  (.mk (some 22) none (.pure (.mv (.t 5)))), 
  (.mk (some 23) none (.pure (.bin .rem (.t 21) (.t 22)))), 
  (.mk (some 24) none (.pure (.ixS 1 (.t 17) (.t 23)))), 
  (.mk (some 26) none (.pure (.mv (.t 1)))), 
  (.mk (some 27) none (.pure (.mv (.t 7)))), 
  (.mk (some 28) none (.pure (.ixS 1 (.t 26) (.t 27)))), 
  (.mk (some 30) none (.pure (.mv (.t 1)))), 
  (.mk (some 31) none (.pure (.mv (.t 7)))), 
  (.mk (some 32) none (.pure (.bin .add (.t 31) (.c (.i .i64 1))))), 
  (.mk (some 33) none (.pure (.mv (.t 5)))), 
  (.mk (some 34) none (.pure (.bin .rem (.t 32) (.t 33)))), 
  (.mk (some 35) none (.pure (.ixS 1 (.t 30) (.t 34))))]) (.seq (.any [(
  (.mk (some 25) none (.ld true 1 (.t 24))), false), (
  (.mk (some 29) none (.ld true 1 (.t 28))), false), (
  (.mk (some 36) none (.ld true 1 (.t 35))), false)]) (.ops [
  (.mk (some 37) none (.call 49 [(.t 16), (.t 25), (.t 29), (.t 36)])), 
  (.mk (some 38) none (.bsl 3 1 [(.i .i64 0)] 1 [((0, 1), (.t 37))])), 
  (.mk (some 39) none (.app 3 1 8 [(.i .i64 0)] (.t 15) (.t 38))), 
  (.mk (some 6) none (.pure (.mv (.t 39))))])))) (.ops [
  (.mk (some 13) none (.pure (.mv (.t 7)))), 
  (.mk (some 14) none (.pure (.bin .add (.t 13) (.c (.i .i64 1))))), 
  (.mk (some 7) none (.pure (.mv (.t 14))))])))))) (.seq (.ops [
  (.mk (some 40) none (.pure (.mv (.t 6)))), 
  (.mk (some 4) none (.pure (.mv (.t 40))))]) .ret))))))
def fn53 : AFn := (AFn.mk 95 [(.t 4), (.t 5)] (.seq (.ops [
  (.mk (some 4) none (.pure (.mv (.c (.s []))))), 
  (.mk (some 5) none (.pure (.mv (.c (.b false)))))]) (.seq (.ops [
  (.mk (some 12) none (.pure (.mv (.t 1)))), 
  (.mk (some 13) none (.pure (.len true (.t 12)))), 
  (.mk (some 14) none (.pure (.bin .add (.t 13) (.c (.i .i64 1))))), 
  (.mk (some 15) none (.mk 82 1 1 [(.i .u8 0)] (.t 14) (.t 14))), 
  (.mk (some 6) none (.pure (.mv (.t 15))))]) (.seq (.ops [
  (.mk (some 16) none (.pure (.mv (.t 6)))), 
  (.mk (some 17) none (.pure (.mv (.t 1)))), 
  (.mk (some 18) none (.pure (.len true (.t 17)))), 
  (.mk (some 19) none (.pure (.ixS 1 (.t 16) (.t 18)))), 
  (.mk none none (.st 1 (.t 19) (.c (.i .u8 15))))]) (.seq (.seq (.ops [
  (.mk (some 20) none (.pure (.mv (.t 1)))), 
  (.mk (some 21) none (.pure (.len true (.t 20)))), 
  (.mk (some 22) none (.pure (.bin .sub (.t 21) (.c (.i .i64 1))))), 
  (.mk (some 7) none (.pure (.mv (.t 22))))]) (.block 0 (.loop (.seq (.seq (.ops [
  (.mk (some 23) none (.pure (.mv (.t 7)))), 
  (.mk (some 24) none (.pure (.bin .geq (.t 23) (.c (.i .i64 0)))))]) (.cond (.t 24) .skip (.exit 0))) (.seq (.block 1 (.any [(
  (.mk (some 27) none (.pure (.mv (.t 6)))), false), (
  (.mk (some 28) none (.pure (.mv (.t 7)))), false), (
  (.mk (some 29) none (.pure (.mv (.t 0)))), false), (
  (.mk (some 30) none (.pure (.mv (.t 6)))), false), (
  (.mk (some 31) none (.pure (.mv (.t 7)))), false), (
  (.mk (some 32) none (.pure (.bin .add (.t 31) (.c (.i .i64 1))))), false), (
  (.mk (some 33) none (.pure (.ixS 1 (.t 30) (.t 32)))), false), (
  (.mk (some 34) none (.ld true 1 (.t 33))), false), (
  (.mk (some 35) none (.pure (.mv (.t 1)))), false), (
  (.mk (some 36) none (.pure (.mv (.t 7)))), false), (
  (.mk (some 37) none (.pure (.ixStr (.t 35) (.t 36)))), false), (
  (.mk (some 38) none (.call 73 [(.t 37)])), false), (
  (.mk (some 39) none (.call 74 [(.t 29), (.t 34), (.t 38)])), false), (
  (.mk (some 40) none (.pure (.ixS 1 (.t 27) (.t 28)))), false), (
  (.mk none none (.st 1 (.t 40) (.t 39))), false)])) (.ops [
  (.mk (some 25) none (.pure (.mv (.t 7)))), 
  (.mk (some 26) none (.pure (.bin .sub (.t 25) (.c (.i .i64 1))))), 
  (.mk (some 7) none (.pure (.mv (.t 26))))])))))) (.seq (.seq (.ops [
  (.mk (some 41) none (.pure (.mv (.t 6)))), 
  (.mk (some 42) none (.pure (.ixS 1 (.t 41) (.c (.i .i64 0))))), 
  (.mk (some 43) none (.ld true 1 (.t 42))), 
  (.mk (some 44) none (.pure (.bin .eql (.t 43) (.c (.i .u8 0)))))]) (.cond (.t 44) (.seq (.ops [
  (.mk (some 4) none (.pure (.mv (.c (.s []))))), 
  (.mk (some 5) none (.pure (.mv (.c (.b false)))))]) .ret) .skip)) (.seq (.ops [
  (.mk (some 45) none (.pure (.mv (.t 6)))), 
  (.mk (some 46) none (.pure (.ixS 1 (.t 45) (.c (.i .i64 0))))), 
  (.mk (some 47) none (.ld true 1 (.t 46))), 
  (.mk (some 48) none (.call 75 [(.t 47)])), 
  (.mk (some 8) none (.pure (.mv (.t 48))))]) (.seq (.ops [
  (.mk (some 49) none (.pure (.mv (.t 8)))), 
  (.mk (some 50) none (.pure (.bin .shr (.t 49) (.c (.i .u64 1))))), 
  (.mk (some 51) none (.call 71 [(.t 50)])), 
  (.mk (some 52) none (.pure (.mv (.t 8)))), 
  (.mk (some 53) none (.pure (.bin .and (.t 52) (.c (.i .i64 1))))), 
  (.mk (some 54) none (.call 71 [(.t 53)])), 
  (.mk (some 55) none (.bsl 5 1 [(.i .u8 0)] 2 [((0, 1), (.t 51)), ((1, 1), (.t 54))])), 
  (.mk (some 9) none (.pure (.mv (.t 55))))]) (.seq (.seq (.ops [
  (.mk (some 56) none (.pure (.mv (.t 1)))), 
  (.mk (some 57) none (.pure (.len true (.t 56)))), 
  (.mk (some 58) none (.pure (.mv (.c (.i .i64 0)))))]) (.block 2 (.loop (.seq (.ops [
  (.mk (some 59) none (.pure (.bin .lss (.t 58) (.t 57))))]) (.seq (.cond (.t 59) .skip (.exit 2)) (.seq (.block 3 (.seq (.ops [
  (.mk (some 60) none (.pure (.mv (.t 58)))), 
  (.mk (some 10) none (.pure (.mv (.t 60))))]) (.seq (.ops [
  (.mk (some 61) none (.pure (.mv (.t 8)))), 
  (.mk (some 62) none (.pure (.bin .mul (.c (.i .i64 2)) (.t 61)))), 
  (.mk (some 11) none (.pure (.mv (.t 62))))]) (.seq (.seq (.ops [
  (.mk (some 63) none (.pure (.mv (.t 0)))), 
  (.mk (some 64) none (.pure (.mv (.t 11)))), 
  (.mk (some 66) none (.pure (.mv (.t 1)))), 
  (.mk (some 67) none (.pure (.mv (.t 10)))), 
  (.mk (some 68) none (.pure (.ixStr (.t 66) (.t 67)))), 
  (.mk (some 65) none (.call 72 [(.t 63), (.t 64)])), 
  (.mk (some 69) none (.call 73 [(.t 68)])), 
  (.mk (some 70) none (.pure (.bin .neq (.t 65) (.t 69)))), 
  (.mk (some 71) none (.pure (.mv (.t 70)))), 
  (.mk (some 72) (some (71, false)) (.pure (.mv (.t 6)))), 
  (.mk (some 73) (some (71, false)) (.pure (.mv (.t 10)))), 
  (.mk (some 74) (some (71, false)) (.pure (.bin .add (.t 73) (.c (.i .i64 1))))), 
  (.mk (some 75) (some (71, false)) (.pure (.ixS 1 (.t 72) (.t 74)))), 
  (.mk (some 77) (some (71, false)) (.pure (.mv (.t 11)))), 
  (.mk (some 78) (some (71, false)) (.pure (.bin .and (.t 77) (.c (.i .i64 3))))), 
  (.mk (some 76) (some (71, false)) (.ld true 1 (.t 75))), 
  (.mk (some 79) (some (71, false)) (.call 76 [(.t 76), (.t 78)])), 
  (.mk (some 80) (some (71, false)) (.pure (.not (.t 79)))), 
  (.mk (some 81) none (.pure (.pick (.t 71) (.c (.b true)) (.t 80))))]) (.cond (.t 81) (.ops [
  (.mk (some 82) none (.pure (.mv (.t 11)))), 
  (.mk (some 83) none (.pure (.bin .add (.t 82) (.c (.i .i64 1))))), 
  (.mk (some 11) none (.pure (.mv (.t 83))))]) .skip)) (.seq (.ops [
  (.mk (some 84) none (.pure (.mv (.t 11)))), 
  (.mk (some 85) none (.pure (.bin .and (.t 84) (.c (.i .i64 3))))), 
  (.mk (some 8) none (.pure (.mv (.t 85))))]) (.ops [
  (.mk (some 86) none (.pure (.mv (.t 9)))), 
  (.mk (some 87) none (.pure (.mv (.t 11)))), 
  (.mk (some 88) none (.pure (.bin .and (.t 87) (.c (.i .i64 1))))), 
  (.mk (some 89) none (.call 71 [(.t 88)])), 
  (.mk (some 90) none (.bsl 5 1 [(.i .u8 0)] 1 [((0, 1), (.t 89))])), 
  (.mk (some 91) none (.app 5 1 1 [(.i .u8 0)] (.t 86) (.t 90))), 
  (.mk (some 9) none (.pure (.mv (.t 91))))])))))) (.ops [
  (.mk (some 92) none (.pure (.bin .add (.t 58) (.c (.i .i64 1))))), 
  (.mk (some 58) none (.pure (.mv (.t 92))))]))))))) (.seq (.ops [
  (.mk (some 93) none (.pure (.mv (.t 9)))), 
  (.mk (some 94) none (.bts (.t 93))), 
  (.mk (some 4) none (.pure (.mv (.t 94)))), 
  (.mk (some 5) none (.pure (.mv (.c (.b true)))))]) .ret))))))))))
def fn54 : AFn := (AFn.mk 9 [(.t 2)] (.seq (.ops [
  (.mk (some 2) none (.pure (.mv (.c (.b false)))))]) (.seq (.ops [
  (.mk (some 3) none (.pure (.mv (.t 0)))), 
  (.mk (some 4) none (.pure (.bin .geq (.t 3) (.c (.i .i64 0))))), 
  (.mk (some 5) none (.pure (.mv (.t 4)))), 
  (.mk (some 6) (some (5, true)) (.pure (.mv (.t 0)))), 
  (.mk (some 7) (some (5, true)) (.pure (.bin .leq (.t 6) (.c (.i .i64 255))))), 
  (.mk (some 8) none (.pure (.pick (.t 5) (.t 7) (.c (.b false))))), 
  (.mk (some 2) none (.pure (.mv (.t 8))))]) .ret)))
def fn61 : AFn := (AFn.mk 12 [(.t 2), (.t 3)] (.seq (.ops [
  (.mk (some 2) none (.pure (.mv (.c (.i .u8 0))))), 
  (.mk (some 3) none (.pure (.mv (.c (.i .i64 0)))))]) (.seq (.seq (.ops [
  (.mk (some 4) none (.pure (.mv (.t 0)))), 
  (.mk (some 5) none (.pure (.bin .lss (.t 4) (.c (.i .i64 0))))), 
  (.mk (some 6) none (.pure (.mv (.t 5)))), 
  (.mk (some 7) (some (6, false)) (.pure (.mv (.t 0)))), 
  (.mk (some 8) (some (6, false)) (.pure (.bin .gtr (.t 7) (.c (.i .i64 255))))), 
  (.mk (some 9) none (.pure (.pick (.t 6) (.c (.b true)) (.t 8))))]) (.cond (.t 9) (.seq (.ops [
  (.mk (some 2) none (.pure (.mv (.c (.i .u8 0))))), 
  (.mk (some 3) none (.pure (.mv (.c (.i .i64 2)))))]) .ret) .skip)) (.seq (.ops [
  (.mk (some 10) none (.pure (.mv (.t 0)))), 
  (.mk (some 11) none (.pure (.conv .u8 (.t 10)))), 
  (.mk (some 2) none (.pure (.mv (.t 11)))), 
  (.mk (some 3) none (.pure (.mv (.c (.i .i64 0)))))]) .ret))))
def fn62 : AFn := (AFn.mk 56 [(.t 2)] (.seq (.ops [
  (.mk (some 2) none (.pure (.mv (.c (.s [])))))]) (.seq (.ops [
  (.mk (some 8) none (.pure (.build [(.b false), (.b false), (.b false), (.b false), (.b false), (.b false), (.b false), (.b false), (.b false), (.b false), (.b false), (.b false), (.b false), (.b false), (.b false), (.b false)] [((15, 1), (.c (.b true)))]))), 
  (.mk (some 3) none (.al 86 [(.b false), (.b false), (.b false), (.b false), (.b false), (.b false), (.b false), (.b false), (.b false), (.b false), (.b false), (.b false), (.b false), (.b false), (.b false), (.b false)])), 
  (.mk none none (.st 16 (.t 3) (.t 8)))]) (.seq (.ops [
  (.mk (some 9) none (.pure (.build [(.i .u8 0), (.s [])] [((0, 1), (.c (.i .u8 15))), ((1, 1), (.c (.s [])))]))), 
  (.mk (some 10) none (.bsl 88 2 [(.i .u8 0), (.s [])] 1 [((0, 2), (.t 9))])), 
  (.mk (some 4) none (.pure (.mv (.t 10))))]) (.seq (.seq (.ops [
  (.mk (some 5) none (.pure (.mv (.c (.i .i64 0)))))]) (.block 0 (.loop (.seq (.seq (.ops [
  (.mk (some 11) none (.pure (.mv (.t 5)))), 
  (.mk (some 12) none (.pure (.mv (.t 4)))), 
  (.mk (some 13) none (.pure (.len false (.t 12)))), 
  (.mk (some 14) none (.pure (.bin .lss (.t 11) (.t 13))))]) (.cond (.t 14) .skip (.exit 0))) (.seq (.block 1 (.seq (.ops [
  (.mk (some 17) none (.pure (.mv (.c (.i .i64 0)))))]) (.block 2 (.loop (.seq (.ops [
  (.mk (some 18) none (.pure (.bin .lss (.t 17) (.c (.i .i64 2)))))]) (.seq (.cond (.t 18) .skip (.exit 2)) (.seq (.block 3 (.seq (.ops [
  (.mk (some 19) none (.pure (.mv (.t 17)))), 
  (.mk (some 6) none (.pure (.mv (.t 19))))]) (.seq (.any [(
  (.mk (some 20) none (.pure (.mv (.t 0)))), false), (
  (.mk (some 21) none (.pure (.mv (.t 4)))), false), (
  (.mk (some 22) none (.pure (.mv (.t 5)))), false), (
  (.mk (some 23) none (.pure (.ixS 2 (.t 21) (.t 22)))), false), (
  (.mk (some 24) none (.pure (.faddr 0 (.t 23)))), false), (
  (.mk (some 25) none (.ld true 1 (.t 24))), false), (
  (.mk (some 26) none (.pure (.mv (.t 6)))), false), (
  (.mk (some 27) none (.call 78 [(.t 20), (.t 25), (.t 26)])), false), (
  (.mk (some 28) none (.pure (.mv (.t 4)))), false), (
  (.mk (some 29) none (.pure (.mv (.t 5)))), false), (
  (.mk (some 30) none (.pure (.ixS 2 (.t 28) (.t 29)))), false), (
  (.mk (some 31) none (.pure (.faddr 1 (.t 30)))), false), (
  (.mk (some 32) none (.ld true 1 (.t 31))), false), (
  (.mk (some 33) none (.pure (.mv (.t 6)))), false), (
  (.mk (some 34) none (.call 71 [(.t 33)])), false), (
  (.mk (some 35) none (.pure (.chr (.t 34)))), false), (
  (.mk (some 36) none (.pure (.sbin .add (.t 32) (.t 35)))), false), (
  (.mk (some 37) none (.pure (.build [(.i .u8 0), (.s [])] [((0, 1), (.t 27)), ((1, 1), (.t 36))]))), false), (
  (.mk (some 7) none (.al 88 [(.i .u8 0), (.s [])])), false), (
  (.mk none none (.st 2 (.t 7) (.t 37))), false)]) (.seq (.seq (.ops [
  (.mk (some 38) none (.pure (.faddr 0 (.t 7)))), 
  (.mk (some 39) none (.ld true 1 (.t 38))), 
  (.mk (some 40) none (.pure (.bin .eql (.t 39) (.c (.i .u8 0)))))]) (.cond (.t 40) (.seq (.ops [
  (.mk (some 41) none (.pure (.faddr 1 (.t 7)))), 
  (.mk (some 42) none (.ld true 1 (.t 41))), 
  (.mk (some 2) none (.pure (.mv (.t 42))))]) .ret) .skip)) (.seq (.ops [
  (.mk (some 43) none (.pure (.faddr 0 (.t 7)))), 
  (.mk (some 44) none (.ld true 1 (.t 43))), 
  (.mk (some 45) none (.pure (.ixA 16 1 (.t 3) (.t 44)))), 
  (.mk (some 46) none (.ld true 1 (.t 45))), 
  (.mk (some 47) none (.pure (.not (.t 46))))]) (.cond (.t 47) (.seq (.ops [
  (.mk (some 48) none (.pure (.faddr 0 (.t 7)))), 
  (.mk (some 49) none (.ld true 1 (.t 48))), 
  (.mk (some 50) none (.pure (.ixA 16 1 (.t 3) (.t 49)))), 
  (.mk none none (.st 1 (.t 50) (.c (.b true))))]) (.ops [
  (.mk (some 51) none (.pure (.mv (.t 4)))), 
  (.mk (some 52) none (.ld false 2 (.t 7))), 
  (.mk (some 53) none (.bsl 88 2 [(.i .u8 0), (.s [])] 1 [((0, 2), (.t 52))])), 
  (.mk (some 54) none (.app 88 2 24 [(.i .u8 0), (.s [])] (.t 51) (.t 53))), 
  (.mk (some 4) none (.pure (.mv (.t 54))))])) .skip)))))) (.ops [
  (.mk (some 55) none (.pure (.bin .add (.t 17) (.c (.i .i64 1))))), 
  (.mk (some 17) none (.pure (.mv (.t 55))))])))))))) (.ops [
  (.mk (some 15) none (.pure (.mv (.t 5)))), 
  (.mk (some 16) none (.pure (.bin .add (.t 15) (.c (.i .i64 1))))), 
  (.mk (some 5) none (.pure (.mv (.t 16))))])))))) (.seq (.ops [
  (.mk (some 2) none (.pure (.mv (.c (.s [])))))]) .ret))))))
def fn64 : AFn := (AFn.mk 17 [(.t 2)] (.seq (.ops [
  (.mk (some 2) none (.pure (.mv (.c (.b false)))))]) (.seq (.ops [
  (.mk (some 3) none (.pure (.mv (.c (.i .u16 65535)))))]) (.seq (.seq (.ops [
  (.mk (some 5) none (.pure (.mv (.t 0)))), 
  (.mk (some 6) none (.pure (.mv (.t 3)))), 
  (.mk (some 7) none (.call 79 [(.t 5), (.t 6)])), 
  (.mk (some 4) none (.pure (.mv (.t 7))))]) (.block 0 (.loop (.seq (.seq (.ops [
  (.mk (some 8) none (.pure (.mv (.t 4)))), 
  (.mk (some 9) none (.pure (.mv (.t 3)))), 
  (.mk (some 10) none (.pure (.bin .neq (.t 8) (.t 9))))]) (.cond (.t 10) .skip (.exit 0))) (.seq (.block 1 (.ops [
  (.mk (some 14) none (.pure (.mv (.t 4)))), 
  (.mk (some 3) none (.pure (.mv (.t 14))))])) (.ops [
  (.mk (some 11) none (.pure (.mv (.t 0)))), 
  (.mk (some 12) none (.pure (.mv (.t 3)))), 
  (.mk (some 13) none (.call 79 [(.t 11), (.t 12)])), 
  (.mk (some 4) none (.pure (.mv (.t 13))))])))))) (.seq (.ops [
  (.mk (some 15) none (.pure (.mv (.t 3)))), 
  (.mk (some 16) none (.pure (.bin .eql (.t 15) (.c (.i .u16 33825))))), 
  (.mk (some 2) none (.pure (.mv (.t 16))))]) .ret)))))
def fn65 : AFn := (AFn.mk 95 [(.t 2)] (.seq (.ops [
  (.mk (some 2) none (.pure (.mv (.c (.b false)))))]) (.seq (.ops [
  (.mk (some 11) none (.mk 4 1 1 [(.b false)] (.c (.i .i64 16)) (.c (.i .i64 16)))), 
  (.mk (some 3) none (.pure (.mv (.t 11))))]) (.seq (.seq (.ops [
  (.mk (some 4) none (.pure (.mv (.c (.i .i64 0)))))]) (.block 0 (.loop (.seq (.seq (.ops [
  (.mk (some 12) none (.pure (.mv (.t 4)))), 
  (.mk (some 13) none (.pure (.bin .lss (.t 12) (.c (.i .i64 16)))))]) (.cond (.t 13) .skip (.exit 0))) (.seq (.block 1 (.ops [
  (.mk (some 16) none (.pure (.mv (.t 3)))), 
  (.mk (some 17) none (.pure (.mv (.t 4)))), 
  (.mk (some 18) none (.pure (.ixS 1 (.t 16) (.t 17)))), 
  (.mk none none (.st 1 (.t 18) (.c (.b true))))])) (.ops [
  (.mk (some 14) none (.pure (.mv (.t 4)))), 
  (.mk (some 15) none (.pure (.bin .add (.t 14) (.c (.i .i64 1))))), 
  (.mk (some 4) none (.pure (.mv (.t 15))))])))))) (.seq (.seq (.ops [
  (.mk (some 5) none (.pure (.mv (.c (.b true)))))]) (.block 2 (.loop (.seq (.seq (.ops [
  (.mk (some 19) none (.pure (.mv (.t 5))))]) (.cond (.t 19) .skip (.exit 2))) (.block 3 (.seq (.ops [
  (.mk (some 5) none (.pure (.mv (.c (.b false)))))]) (.seq (.ops [
  (.mk (some 6) none (.pure (.mv (.c (.i .i64 0)))))]) (.block 4 (.loop (.seq (.seq (.ops [
  (.mk (some 20) none (.pure (.mv (.t 6)))), 
  (.mk (some 21) none (.pure (.bin .lss (.t 20) (.c (.i .i64 16)))))]) (.cond (.t 21) .skip (.exit 4))) (.seq (.block 5 (.seq (.ops [
  (.mk (some 7) none (.pure (.mv (.c (.b false))))), 
  (.mk (some 8) none (.pure (.mv (.c (.b false)))))]) (.seq (.seq (.ops [
  (.mk (some 9) none (.pure (.mv (.c (.i .i64 0)))))]) (.block 6 (.loop (.seq (.seq (.ops [
  (.mk (some 24) none (.pure (.mv (.t 9)))), 
  (.mk (some 25) none (.pure (.bin .lss (.t 24) (.c (.i .i64 16)))))]) (.cond (.t 25) .skip (.exit 6))) (.seq (.block 7 (.seq (.ops [
  (.mk (some 28) none (.pure (.mv (.t 7)))), 
  (.mk (some 29) none (.pure (.mv (.t 28)))), 
  (.mk (some 30) (some (29, false)) (.pure (.mv (.t 3)))), 
  (.mk (some 31) (some (29, false)) (.pure (.mv (.t 9)))), 
  (.mk (some 32) (some (29, false)) (.pure (.ixS 1 (.t 30) (.t 31)))), 
  (.mk (some 33) (some (29, false)) (.ld true 1 (.t 32))), 
  (.mk (some 34) (some (29, false)) (.pure (.mv (.t 33)))), 
  (.mk (some 35) (some (34, true)) (.pure (.mv (.t 0)))), 
  (.mk (some 36) (some (34, true)) (.pure (.mv (.t 6)))), 
  (.mk (some 37) (some (34, true)) (.pure (.bin .quo (.t 36) (.c (.i .i64 4))))), 
  (.mk (some 38) (some (34, true)) (.pure (.mv (.t 6)))), 
  (.mk (some 39) (some (34, true)) (.pure (.bin .rem (.t 38) (.c (.i .i64 4))))), 
  (.mk (some 40) (some (34, true)) (.pure (.mv (.t 9)))), 
  (.mk (some 41) (some (34, true)) (.pure (.bin .quo (.t 40) (.c (.i .i64 4))))), 
  (.mk (some 42) (some (34, true)) (.pure (.mv (.t 9)))), 
  (.mk (some 43) (some (34, true)) (.pure (.bin .rem (.t 42) (.c (.i .i64 4))))), 
  (.mk (some 44) (some (34, true)) (.call 80 [(.t 35), (.t 37), (.t 39), (.t 41), (.t 43)])), 
  (.mk (some 45) (some (29, false)) (.pure (.pick (.t 34) (.t 44) (.c (.b false))))), 
  (.mk (some 46) none (.pure (.pick (.t 29) (.c (.b true)) (.t 45)))), 
  (.mk (some 7) none (.pure (.mv (.t 46))))]) (.ops [
  (.mk (some 47) none (.pure (.mv (.t 8)))), 
  (.mk (some 48) none (.pure (.mv (.t 47)))), 
  (.mk (some 49) (some (48, false)) (.pure (.mv (.t 3)))), 
  (.mk (some 50) (some (48, false)) (.pure (.mv (.t 9)))), 
  (.mk (some 51) (some (48, false)) (.pure (.ixS 1 (.t 49) (.t 50)))), 
  (.mk (some 52) (some (48, false)) (.ld true 1 (.t 51))), 
  (.mk (some 53) (some (48, false)) (.pure (.mv (.t 52)))), 
  (.mk (some 54) (some (53, true)) (.pure (.mv (.t 0)))), 
  (.mk (some 55) (some (53, true)) (.pure (.mv (.t 9)))), 
  (.mk (some 56) (some (53, true)) (.pure (.bin .quo (.t 55) (.c (.i .i64 4))))), 
  (.mk (some 57) (some (53, true)) (.pure (.mv (.t 9)))), 
  (.mk (some 58) (some (53, true)) (.pure (.bin .rem (.t 57) (.c (.i .i64 4))))), 
  (.mk (some 59) (some (53, true)) (.pure (.mv (.t 6)))), 
  (.mk (some 60) (some (53, true)) (.pure (.bin .quo (.t 59) (.c (.i .i64 4))))), 
  (.mk (some 61) (some (53, true)) (.pure (.mv (.t 6)))), 
  (.mk (some 62) (some (53, true)) (.pure (.bin .rem (.t 61) (.c (.i .i64 4))))), 
  (.mk (some 63) (some (53, true)) (.call 80 [(.t 54), (.t 56), (.t 58), (.t 60), (.t 62)])), 
  (.mk (some 64) (some (48, false)) (.pure (.pick (.t 53) (.t 63) (.c (.b false))))), 
  (.mk (some 65) none (.pure (.pick (.t 48) (.c (.b true)) (.t 64)))), 
  (.mk (some 8) none (.pure (.mv (.t 65))))]))) (.ops [
  (.mk (some 26) none (.pure (.mv (.t 9)))), 
  (.mk (some 27) none (.pure (.bin .add (.t 26) (.c (.i .i64 1))))), 
  (.mk (some 9) none (.pure (.mv (.t 27))))])))))) (.seq (.ops [
  (.mk (some 66) none (.pure (.mv (.t 3)))), 
  (.mk (some 67) none (.pure (.mv (.t 6)))), 
  (.mk (some 68) none (.pure (.ixS 1 (.t 66) (.t 67)))), 
  (.mk (some 69) none (.ld true 1 (.t 68))), 
  (.mk (some 70) none (.pure (.mv (.t 69)))), 
  (.mk (some 71) (some (70, true)) (.pure (.mv (.t 7)))), 
  (.mk (some 72) (some (70, true)) (.pure (.mv (.t 71)))), 
  (.mk (some 73) (some (72, true)) (.pure (.mv (.t 8)))), 
  (.mk (some 74) (some (70, true)) (.pure (.pick (.t 72) (.t 73) (.c (.b false))))), 
  (.mk (some 75) (some (70, true)) (.pure (.not (.t 74)))), 
  (.mk (some 76) none (.pure (.pick (.t 70) (.t 75) (.c (.b false)))))]) (.cond (.t 76) (.seq (.ops [
  (.mk (some 77) none (.pure (.mv (.t 3)))), 
  (.mk (some 78) none (.pure (.mv (.t 6)))), 
  (.mk (some 79) none (.pure (.ixS 1 (.t 77) (.t 78)))), 
  (.mk none none (.st 1 (.t 79) (.c (.b false))))]) (.ops [
  (.mk (some 5) none (.pure (.mv (.c (.b true)))))])) .skip))))) (.ops [
  (.mk (some 22) none (.pure (.mv (.t 6)))), 
  (.mk (some 23) none (.pure (.bin .add (.t 22) (.c (.i .i64 1))))), 
  (.mk (some 6) none (.pure (.mv (.t 23))))])))))))))))) (.seq (.seq (.ops [
  (.mk (some 10) none (.pure (.mv (.c (.i .i64 0)))))]) (.block 8 (.loop (.seq (.seq (.ops [
  (.mk (some 80) none (.pure (.mv (.t 10)))), 
  (.mk (some 81) none (.pure (.bin .lss (.t 80) (.c (.i .i64 16)))))]) (.cond (.t 81) .skip (.exit 8))) (.seq (.block 9 (.seq (.ops [
  (.mk (some 84) none (.pure (.mv (.t 3)))), 
  (.mk (some 85) none (.pure (.mv (.t 10)))), 
  (.mk (some 86) none (.pure (.ixS 1 (.t 84) (.t 85)))), 
  (.mk (some 87) none (.ld true 1 (.t 86))), 
  (.mk (some 88) none (.pure (.mv (.t 87)))), 
  (.mk (some 89) (some (88, true)) (.pure (.mv (.t 10)))), 
  (.mk (some 90) (some (88, true)) (.pure (.bin .quo (.t 89) (.c (.i .i64 4))))), 
  (.mk (some 91) (some (88, true)) (.pure (.mv (.t 10)))), 
  (.mk (some 92) (some (88, true)) (.pure (.bin .rem (.t 91) (.c (.i .i64 4))))), 
  (.mk (some 93) (some (88, true)) (.pure (.bin .neq (.t 90) (.t 92)))), 
  (.mk (some 94) none (.pure (.pick (.t 88) (.t 93) (.c (.b false)))))]) (.cond (.t 94) (.seq (.ops [
  (.mk (some 2) none (.pure (.mv (.c (.b false)))))]) .ret) .skip))) (.ops [
  (.mk (some 82) none (.pure (.mv (.t 10)))), 
  (.mk (some 83) none (.pure (.bin .add (.t 82) (.c (.i .i64 1))))), 
  (.mk (some 10) none (.pure (.mv (.t 83))))])))))) (.seq (.ops [
  (.mk (some 2) none (.pure (.mv (.c (.b true)))))]) .ret)))))))
def fn66 : AFn := (AFn.mk 78 [(.t 4), (.t 5), (.t 6)] (.seq (.ops [
  (.mk (some 4) none (.pure (.mv (.c (.s []))))), 
  (.mk (some 5) none (.pure (.mv (.c (.s []))))), 
  (.mk (some 6) none (.pure (.mv (.c (.b false)))))]) (.seq (.ops [
  (.mk (some 20) none .mkm), 
  (.mk (some 7) none (.pure (.mv (.t 20))))]) (.seq (.ops [
  (.mk (some 21) none .mkm), 
  (.mk (some 8) none (.pure (.mv (.t 21))))]) (.seq (.seq (.ops [
  (.mk (some 22) none (.pure (.mv (.t 1)))), 
  (.mk (some 23) none (.pure (.bin .shl (.c (.i .i64 1)) (.t 22)))), 
  (.mk (some 24) none (.pure (.mv (.c (.i .i64 0)))))]) (.block 0 (.loop (.seq (.ops [
  (.mk (some 25) none (.pure (.bin .lss (.t 24) (.t 23))))]) (.seq (.cond (.t 25) .skip (.exit 0)) (.seq (.block 1 (.seq (.ops [
  (.mk (some 26) none (.pure (.mv (.t 24)))), 
  (.mk (some 9) none (.pure (.mv (.t 26))))]) (.seq (.ops [
  (.mk (some 27) none (.pure (.mv (.t 9)))), 
  (.mk (some 28) none (.pure (.mv (.t 1)))), 
  (.mk (some 29) none (.call 81 [(.t 27), (.t 28)])), 
  (.mk (some 10) none (.pure (.mv (.t 29))))]) (.seq (.ops [
  (.mk (some 30) none (.pure (.mv (.t 0)))), 
  (.mk (some 31) none (.pure (.mv (.t 10)))), 
  (.mk (some 32) none (.call 51 [(.t 30), (.t 31)])), 
  (.mk (some 11) none (.pure (.mv (.t 32))))]) (.seq (.ops [
  (.mk (some 34) none (.pure (.mv (.t 7)))), 
  (.mk (some 35) none (.pure (.mv (.t 11)))), 
  (.mk (some 36) none (.mlk true (.s []) (.t 34) (.t 35))), 
  (.mk (some 33) none (.pure (.mv (.t 36)))), 
  (.mk (some 37) none (.pure (.ext 0 (.t 33)))), 
  (.mk (some 38) none (.pure (.ext 1 (.t 33)))), 
  (.mk (some 12) none (.pure (.mv (.t 37)))), 
  (.mk (some 13) none (.pure (.mv (.t 38))))]) (.seq (.ops [
  (.mk (some 39) none (.pure (.mv (.t 13)))), 
  (.mk (some 40) none (.pure (.not (.t 39))))]) (.cond (.t 40) (.ops [
  (.mk (some 41) none (.pure (.mv (.t 7)))), 
  (.mk (some 42) none (.pure (.mv (.t 11)))), 
  (.mk (some 43) none (.pure (.mv (.t 10)))), 
  (.mk none none (.mup (.t 41) (.t 42) (.t 43)))]) (.seq (.ops [
  (.mk (some 45) none (.pure (.mv (.t 8)))), 
  (.mk (some 46) none (.pure (.mv (.t 7)))), 
  (.mk (some 47) none (.pure (.mv (.t 11)))), 
  (.mk (some 48) none (.mlk false (.s []) (.t 46) (.t 47))), 
  (.mk (some 49) none (.mlk true (.s []) (.t 45) (.t 48))), 
  (.mk (some 44) none (.pure (.mv (.t 49)))), 
  (.mk (some 50) none (.pure (.ext 0 (.t 44)))), 
  (.mk (some 51) none (.pure (.ext 1 (.t 44)))), 
  (.mk (some 14) none (.pure (.mv (.t 50)))), 
  (.mk (some 15) none (.pure (.mv (.t 51))))]) (.seq (.ops [
  (.mk (some 52) none (.pure (.mv (.t 15)))), 
  (.mk (some 53) none (.pure (.not (.t 52))))]) (.cond (.t 53) (.ops [
  (.mk (some 54) none (.pure (.mv (.t 8)))), 
  (.mk (some 55) none (.pure (.mv (.t 7)))), 
  (.mk (some 56) none (.pure (.mv (.t 11)))), 
  (.mk (some 57) none (.mlk false (.s []) (.t 55) (.t 56))), 
  (.mk (some 58) none (.pure (.mv (.t 10)))), 
  (.mk none none (.mup (.t 54) (.t 57) (.t 58)))]) .skip)))))))))) (.ops [
  (.mk (some 59) none (.pure (.bin .add (.t 24) (.c (.i .i64 1))))), 
  (.mk (some 24) none (.pure (.mv (.t 59))))]))))))) (.seq (.seq (.ops [
  (.mk (some 60) none (.pure (.mv (.t 1)))), 
  (.mk (some 61) none (.pure (.bin .shl (.c (.i .i64 1)) (.t 60)))), 
  (.mk (some 62) none (.pure (.mv (.c (.i .i64 0)))))]) (.block 2 (.loop (.seq (.ops [
  (.mk (some 63) none (.pure (.bin .lss (.t 62) (.t 61))))]) (.seq (.cond (.t 63) .skip (.exit 2)) (.seq (.block 3 (.seq (.ops [
  (.mk (some 64) none (.pure (.mv (.t 62)))), 
  (.mk (some 16) none (.pure (.mv (.t 64))))]) (.seq (.ops [
  (.mk (some 65) none (.pure (.mv (.t 16)))), 
  (.mk (some 66) none (.pure (.mv (.t 1)))), 
  (.mk (some 67) none (.call 81 [(.t 65), (.t 66)])), 
  (.mk (some 17) none (.pure (.mv (.t 67))))]) (.seq (.ops [
  (.mk (some 69) none (.pure (.mv (.t 8)))), 
  (.mk (some 70) none (.pure (.mv (.t 17)))), 
  (.mk (some 71) none (.mlk true (.s []) (.t 69) (.t 70))), 
  (.mk (some 68) none (.pure (.mv (.t 71)))), 
  (.mk (some 72) none (.pure (.ext 0 (.t 68)))), 
  (.mk (some 73) none (.pure (.ext 1 (.t 68)))), 
  (.mk (some 18) none (.pure (.mv (.t 72)))), 
  (.mk (some 19) none (.pure (.mv (.t 73))))]) (.seq (.ops [
  (.mk (some 74) none (.pure (.mv (.t 19))))]) (.cond (.t 74) (.seq (.ops [
  (.mk (some 75) none (.pure (.mv (.t 17)))), 
  (.mk (some 76) none (.pure (.mv (.t 18)))), 
  (.mk (some 4) none (.pure (.mv (.t 75)))), 
  (.mk (some 5) none (.pure (.mv (.t 76)))), 
  (.mk (some 6) none (.pure (.mv (.c (.b true)))))]) .ret) .skip)))))) (.ops [
  (.mk (some 77) none (.pure (.bin .add (.t 62) (.c (.i .i64 1))))), 
  (.mk (some 62) none (.pure (.mv (.t 77))))]))))))) (.seq (.ops [
  (.mk (some 4) none (.pure (.mv (.c (.s []))))), 
  (.mk (some 5) none (.pure (.mv (.c (.s []))))), 
  (.mk (some 6) none (.pure (.mv (.c (.b false)))))]) .ret)))))))
def fn67 : AFn := (AFn.mk 19 [(.t 2)] (.seq (.ops [
  (.mk (some 2) none (.pure (.mv (.c (.i .i64 0)))))]) (.seq (.ops [
  (.mk (some 3) none (.pure (.mv (.c (.i .i64 0)))))]) (.seq (.seq (.ops [
  (.mk (some 4) none (.pure (.mv (.c (.i .i64 0)))))]) (.block 0 (.loop (.seq (.seq (.ops [
  (.mk (some 5) none (.pure (.mv (.t 4)))), 
  (.mk (some 6) none (.pure (.mv (.t 0)))), 
  (.mk (some 7) none (.pure (.len false (.t 6)))), 
  (.mk (some 8) none (.pure (.bin .lss (.t 5) (.t 7))))]) (.cond (.t 8) .skip (.exit 0))) (.seq (.block 1 (.ops [
  (.mk (some 11) none (.pure (.mv (.t 3)))), 
  (.mk (some 12) none (.pure (.bin .mul (.c (.i .i64 2)) (.t 11)))), 
  (.mk (some 13) none (.pure (.mv (.t 0)))), 
  (.mk (some 14) none (.pure (.mv (.t 4)))), 
  (.mk (some 15) none (.pure (.ixS 1 (.t 13) (.t 14)))), 
  (.mk (some 16) none (.ld true 1 (.t 15))), 
  (.mk (some 17) none (.pure (.bin .add (.t 12) (.t 16)))), 
  (.mk (some 3) none (.pure (.mv (.t 17))))])) (.ops [
  (.mk (some 9) none (.pure (.mv (.t 4)))), 
  (.mk (some 10) none (.pure (.bin .add (.t 9) (.c (.i .i64 1))))), 
  (.mk (some 4) none (.pure (.mv (.t 10))))])))))) (.seq (.ops [
  (.mk (some 18) none (.pure (.mv (.t 3)))), 
  (.mk (some 2) none (.pure (.mv (.t 18))))]) .ret)))))
def fn68 : AFn := (AFn.mk 21 [(.t 4)] (.seq (.ops [
  (.mk (some 4) none (.pure (.mv (.c .nsl))))]) (.seq (.ops [
  (.mk (some 5) none (.pure (.mv (.c .nsl))))]) (.seq (.seq (.ops [
  (.mk (some 7) none (.pure (.mv (.t 1)))), 
  (.mk (some 8) none (.pure (.bin .sub (.t 7) (.c (.i .i64 1))))), 
  (.mk (some 6) none (.pure (.mv (.t 8))))]) (.block 0 (.loop (.seq (.seq (.ops [
  (.mk (some 9) none (.pure (.mv (.t 6)))), 
  (.mk (some 10) none (.pure (.bin .geq (.t 9) (.c (.i .i64 0)))))]) (.cond (.t 10) .skip (.exit 0))) (.seq (.block 1 (.ops [
  (.mk (some 13) none (.pure (.mv (.t 5)))), 
  (.mk (some 14) none (.pure (.mv (.t 0)))), 
  (.mk (some 15) none (.pure (.mv (.t 6)))), 
  (.mk (some 16) none (.pure (.bin .shr (.t 14) (.t 15)))), 
  (.mk (some 17) none (.pure (.bin .rem (.t 16) (.c (.i .i64 2))))), 
  (.mk (some 18) none (.bsl 3 1 [(.i .i64 0)] 1 [((0, 1), (.t 17))])), 
  (.mk (some 19) none (.app 3 1 8 [(.i .i64 0)] (.t 13) (.t 18))), 
  (.mk (some 5) none (.pure (.mv (.t 19))))])) (.ops [
  (.mk (some 11) none (.pure (.mv (.t 6)))), 
  (.mk (some 12) none (.pure (.bin .sub (.t 11) (.c (.i .i64 1))))), 
  (.mk (some 6) none (.pure (.mv (.t 12))))])))))) (.seq (.ops [
  (.mk (some 20) none (.pure (.mv (.t 5)))), 
  (.mk (some 4) none (.pure (.mv (.t 20))))]) .ret)))))
def fn69 : AFn := (AFn.mk 8 [(.t 2), (.t 3)] (.seq (.ops [
  (.mk (some 2) none (.pure (.mv (.c (.i .u8 0))))), 
  (.mk (some 3) none (.pure (.mv (.c (.i .u8 0)))))]) (.seq (.ops [
  (.mk (some 4) none (.pure (.mv (.t 0)))), 
  (.mk (some 5) none (.call 82 [(.t 4), (.c (.fn 83 [] []))])), 
  (.mk (some 6) none (.pure (.mv (.t 0)))), 
  (.mk (some 7) none (.call 82 [(.t 6), (.c (.fn 84 [] []))])), 
  (.mk (some 2) none (.pure (.mv (.t 5)))), 
  (.mk (some 3) none (.pure (.mv (.t 7))))]) .ret)))
def fn70 : AFn := (AFn.mk 26 [(.t 2)] (.seq (.ops [
  (.mk (some 2) none (.pure (.mv (.c (.b false)))))]) (.seq (.seq (.ops [
  (.mk (some 5) none (.pure (.mv (.c (.i .i64 0)))))]) (.block 0 (.loop (.seq (.ops [
  (.mk (some 6) none (.pure (.bin .lss (.t 5) (.c (.i .i64 8)))))]) (.seq (.cond (.t 6) .skip (.exit 0)) (.seq (.block 1 (.seq (.ops [
  (.mk (some 7) none (.pure (.mv (.t 5)))), 
  (.mk (some 3) none (.pure (.mv (.t 7))))]) (.seq (.ops [
  (.mk (some 8) none (.pure (.mv (.c (.i .i64 0)))))]) (.block 2 (.loop (.seq (.ops [
  (.mk (some 9) none (.pure (.bin .lss (.t 8) (.c (.i .i64 8)))))]) (.seq (.cond (.t 9) .skip (.exit 2)) (.seq (.block 3 (.seq (.ops [
  (.mk (some 10) none (.pure (.mv (.t 8)))), 
  (.mk (some 4) none (.pure (.mv (.t 10))))]) (.seq (.ops [
  (.mk (some 11) none (.pure (.mv (.t 0)))), 
  (.mk (some 12) none (.pure (.mv (.t 3)))), 
  (.mk (some 13) none (.pure (.mv (.t 4)))), 
  (.mk (some 14) none (.pure (.bin .xor (.t 12) (.t 13)))), 
  (.mk (some 15) none (.call 72 [(.t 11), (.t 14)])), 
  (.mk (some 16) none (.pure (.mv (.t 0)))), 
  (.mk (some 17) none (.pure (.mv (.t 3)))), 
  (.mk (some 18) none (.call 72 [(.t 16), (.t 17)])), 
  (.mk (some 19) none (.pure (.mv (.t 0)))), 
  (.mk (some 20) none (.pure (.mv (.t 4)))), 
  (.mk (some 21) none (.call 72 [(.t 19), (.t 20)])), 
  (.mk (some 22) none (.pure (.bin .xor (.t 18) (.t 21)))), 
  (.mk (some 23) none (.pure (.bin .neq (.t 15) (.t 22))))]) (.cond (.t 23) (.seq (.ops [
  (.mk (some 2) none (.pure (.mv (.c (.b false)))))]) .ret) .skip)))) (.ops [
  (.mk (some 24) none (.pure (.bin .add (.t 8) (.c (.i .i64 1))))), 
  (.mk (some 8) none (.pure (.mv (.t 24))))]))))))))) (.ops [
  (.mk (some 25) none (.pure (.bin .add (.t 5) (.c (.i .i64 1))))), 
  (.mk (some 5) none (.pure (.mv (.t 25))))]))))))) (.seq (.ops [
  (.mk (some 2) none (.pure (.mv (.c (.b true)))))]) .ret))))
def fn71 : AFn := (AFn.mk 6 [(.t 2)] (.seq (.ops [
  (.mk (some 2) none (.pure (.mv (.c (.i .u8 0)))))]) (.seq (.ops [
  (.mk (some 3) none (.pure (.mv (.t 0)))), 
  (.mk (some 4) none (.pure (.conv .u8 (.t 3)))), 
  (.mk (some 5) none (.pure (.bin .add (.c (.i .u8 48)) (.t 4)))), 
  (.mk (some 2) none (.pure (.mv (.t 5))))]) .ret)))
def fn72 : AFn := (AFn.mk 10 [(.t 4)] (.seq (.ops [
  (.mk (some 4) none (.pure (.mv (.c (.i .i64 0)))))]) (.seq (.ops [
  (.mk (some 5) none (.pure (.mv (.t 0)))), 
  (.mk (some 6) none (.pure (.mv (.t 1)))), 
  (.mk (some 7) none (.pure (.bin .shr (.t 5) (.t 6)))), 
  (.mk (some 8) none (.pure (.conv .i64 (.t 7)))), 
  (.mk (some 9) none (.pure (.bin .and (.t 8) (.c (.i .i64 1))))), 
  (.mk (some 4) none (.pure (.mv (.t 9))))]) .ret)))
def fn73 : AFn := (AFn.mk 6 [(.t 2)] (.seq (.ops [
  (.mk (some 2) none (.pure (.mv (.c (.i .i64 0)))))]) (.seq (.ops [
  (.mk (some 3) none (.pure (.mv (.t 0)))), 
  (.mk (some 4) none (.pure (.bin .sub (.t 3) (.c (.i .u8 48))))), 
  (.mk (some 5) none (.pure (.conv .i64 (.t 4)))), 
  (.mk (some 2) none (.pure (.mv (.t 5))))]) .ret)))
def fn74 : AFn := (AFn.mk 30 [(.t 6)] (.seq (.ops [
  (.mk (some 6) none (.pure (.mv (.c (.i .u8 0)))))]) (.seq (.ops [
  (.mk (some 7) none (.pure (.mv (.c (.i .u8 0)))))]) (.seq (.seq (.ops [
  (.mk (some 9) none (.pure (.mv (.c (.i .i64 0)))))]) (.block 0 (.loop (.seq (.ops [
  (.mk (some 10) none (.pure (.bin .lss (.t 9) (.c (.i .i64 8)))))]) (.seq (.cond (.t 10) .skip (.exit 0)) (.seq (.block 1 (.seq (.ops [
  (.mk (some 11) none (.pure (.mv (.t 9)))), 
  (.mk (some 8) none (.pure (.mv (.t 11))))]) (.seq (.ops [
  (.mk (some 12) none (.pure (.mv (.t 1)))), 
  (.mk (some 13) none (.pure (.mv (.t 8)))), 
  (.mk (some 14) none (.pure (.bin .and (.t 13) (.c (.i .i64 3))))), 
  (.mk (some 15) none (.call 76 [(.t 12), (.t 14)])), 
  (.mk (some 16) none (.pure (.mv (.t 15)))), 
  (.mk (some 17) (some (16, true)) (.pure (.mv (.t 0)))), 
  (.mk (some 18) (some (16, true)) (.pure (.mv (.t 8)))), 
  (.mk (some 19) (some (16, true)) (.call 72 [(.t 17), (.t 18)])), 
  (.mk (some 20) (some (16, true)) (.pure (.mv (.t 2)))), 
  (.mk (some 21) (some (16, true)) (.pure (.bin .eql (.t 19) (.t 20)))), 
  (.mk (some 22) none (.pure (.pick (.t 16) (.t 21) (.c (.b false)))))]) (.cond (.t 22) (.ops [
  (.mk (some 23) none (.pure (.mv (.t 7)))), 
  (.mk (some 24) none (.pure (.mv (.t 8)))), 
  (.mk (some 25) none (.pure (.bin .shr (.t 24) (.c (.i .u64 1))))), 
  (.mk (some 26) none (.pure (.bin .shl (.c (.i .u8 1)) (.t 25)))), 
  (.mk (some 27) none (.pure (.bin .or (.t 23) (.t 26)))), 
  (.mk (some 7) none (.pure (.mv (.t 27))))]) .skip)))) (.ops [
  (.mk (some 28) none (.pure (.bin .add (.t 9) (.c (.i .i64 1))))), 
  (.mk (some 9) none (.pure (.mv (.t 28))))]))))))) (.seq (.ops [
  (.mk (some 29) none (.pure (.mv (.t 7)))), 
  (.mk (some 6) none (.pure (.mv (.t 29))))]) .ret)))))
def fn75 : AFn := (AFn.mk 6 [(.t 2)] (.seq (.ops [
  (.mk (some 2) none (.pure (.mv (.c (.i .i64 0)))))]) (.seq (.ops [
  (.mk (some 3) none (.pure (.mv (.t 0)))), 
  (.mk (some 4) none (.pure (.ixStr (.c (.s [8, 0, 1, 0, 2, 0, 1, 0, 3, 0, 1, 0, 2, 0, 1, 0, 4, 0, 1, 0, 2, 0, 1, 0, 3, 0, 1, 0, 2, 0, 1, 0, 5, 0, 1, 0, 2, 0, 1, 0, 3, 0, 1, 0, 2, 0, 1, 0, 4, 0, 1, 0, 2, 0, 1, 0, 3, 0, 1, 0, 2, 0, 1, 0, 6, 0, 1, 0, 2, 0, 1, 0, 3, 0, 1, 0, 2, 0, 1, 0, 4, 0, 1, 0, 2, 0, 1, 0, 3, 0, 1, 0, 2, 0, 1, 0, 5, 0, 1, 0, 2, 0, 1, 0, 3, 0, 1, 0, 2, 0, 1, 0, 4, 0, 1, 0, 2, 0, 1, 0, 3, 0, 1, 0, 2, 0, 1, 0, 7, 0, 1, 0, 2, 0, 1, 0, 3, 0, 1, 0, 2, 0, 1, 0, 4, 0, 1, 0, 2, 0, 1, 0, 3, 0, 1, 0, 2, 0, 1, 0, 5, 0, 1, 0, 2, 0, 1, 0, 3, 0, 1, 0, 2, 0, 1, 0, 4, 0, 1, 0, 2, 0, 1, 0, 3, 0, 1, 0, 2, 0, 1, 0, 6, 0, 1, 0, 2, 0, 1, 0, 3, 0, 1, 0, 2, 0, 1, 0, 4, 0, 1, 0, 2, 0, 1, 0, 3, 0, 1, 0, 2, 0, 1, 0, 5, 0, 1, 0, 2, 0, 1, 0, 3, 0, 1, 0, 2, 0, 1, 0, 4, 0, 1, 0, 2, 0, 1, 0, 3, 0, 1, 0, 2, 0, 1, 0])) (.t 3)))), 
  (.mk (some 5) none (.pure (.conv .i64 (.t 4)))), 
  (.mk (some 2) none (.pure (.mv (.t 5))))]) .ret)))
def fn76 : AFn := (AFn.mk 10 [(.t 4)] (.seq (.ops [
  (.mk (some 4) none (.pure (.mv (.c (.b false)))))]) (.seq (.ops [
  (.mk (some 5) none (.pure (.mv (.t 0)))), 
  (.mk (some 6) none (.pure (.mv (.t 1)))), 
  (.mk (some 7) none (.pure (.bin .shr (.t 5) (.t 6)))), 
  (.mk (some 8) none (.pure (.bin .and (.t 7) (.c (.i .u8 1))))), 
  (.mk (some 9) none (.pure (.bin .eql (.t 8) (.c (.i .u8 1))))), 
  (.mk (some 4) none (.pure (.mv (.t 9))))]) .ret)))
def fn78 : AFn := (AFn.mk 30 [(.t 6)] (.seq (.ops [
  (.mk (some 6) none (.pure (.mv (.c (.i .u8 0)))))]) (.seq (.ops [
  (.mk (some 7) none (.pure (.mv (.c (.i .u8 0)))))]) (.seq (.seq (.ops [
  (.mk (some 9) none (.pure (.mv (.c (.i .i64 0)))))]) (.block 0 (.loop (.seq (.ops [
  (.mk (some 10) none (.pure (.bin .lss (.t 9) (.c (.i .i64 8)))))]) (.seq (.cond (.t 10) .skip (.exit 0)) (.seq (.block 1 (.seq (.ops [
  (.mk (some 11) none (.pure (.mv (.t 9)))), 
  (.mk (some 8) none (.pure (.mv (.t 11))))]) (.seq (.ops [
  (.mk (some 12) none (.pure (.mv (.t 1)))), 
  (.mk (some 13) none (.pure (.mv (.t 8)))), 
  (.mk (some 14) none (.pure (.bin .shr (.t 13) (.c (.i .u64 1))))), 
  (.mk (some 15) none (.call 76 [(.t 12), (.t 14)])), 
  (.mk (some 16) none (.pure (.mv (.t 15)))), 
  (.mk (some 17) (some (16, true)) (.pure (.mv (.t 0)))), 
  (.mk (some 18) (some (16, true)) (.pure (.mv (.t 8)))), 
  (.mk (some 19) (some (16, true)) (.call 72 [(.t 17), (.t 18)])), 
  (.mk (some 20) (some (16, true)) (.pure (.mv (.t 2)))), 
  (.mk (some 21) (some (16, true)) (.pure (.bin .eql (.t 19) (.t 20)))), 
  (.mk (some 22) none (.pure (.pick (.t 16) (.t 21) (.c (.b false)))))]) (.cond (.t 22) (.ops [
  (.mk (some 23) none (.pure (.mv (.t 7)))), 
  (.mk (some 24) none (.pure (.mv (.t 8)))), 
  (.mk (some 25) none (.pure (.bin .and (.t 24) (.c (.i .i64 3))))), 
  (.mk (some 26) none (.pure (.bin .shl (.c (.i .u8 1)) (.t 25)))), 
  (.mk (some 27) none (.pure (.bin .or (.t 23) (.t 26)))), 
  (.mk (some 7) none (.pure (.mv (.t 27))))]) .skip)))) (.ops [
  (.mk (some 28) none (.pure (.bin .add (.t 9) (.c (.i .i64 1))))), 
  (.mk (some 9) none (.pure (.mv (.t 28))))]))))))) (.seq (.ops [
  (.mk (some 29) none (.pure (.mv (.t 7)))), 
  (.mk (some 6) none (.pure (.mv (.t 29))))]) .ret)))))
def fn79 : AFn := (AFn.mk 63 [(.t 4)] (.seq (.ops [
  (.mk (some 4) none (.pure (.mv (.c (.i .u16 0)))))]) (.seq (.ops [
  (.mk (some 5) none (.pure (.mv (.c (.i .u16 0))))), 
  (.mk (some 6) none (.pure (.mv (.c (.i .u16 0)))))]) (.seq (.seq (.ops [
  (.mk (some 11) none (.pure (.mv (.c (.i .i64 0)))))]) (.block 0 (.loop (.seq (.ops [
  (.mk (some 12) none (.pure (.bin .lss (.t 11) (.c (.i .i64 8)))))]) (.seq (.cond (.t 12) .skip (.exit 0)) (.seq (.block 1 (.seq (.ops [
  (.mk (some 13) none (.pure (.mv (.t 11)))), 
  (.mk (some 7) none (.pure (.mv (.t 13))))]) (.seq (.ops [
  (.mk (some 14) none (.pure (.mv (.c (.i .i64 0)))))]) (.block 2 (.loop (.seq (.ops [
  (.mk (some 15) none (.pure (.bin .lss (.t 14) (.c (.i .i64 8)))))]) (.seq (.cond (.t 15) .skip (.exit 2)) (.seq (.block 3 (.seq (.ops [
  (.mk (some 16) none (.pure (.mv (.t 14)))), 
  (.mk (some 8) none (.pure (.mv (.t 16))))]) (.seq (.ops [
  (.mk (some 17) none (.pure (.mv (.t 7)))), 
  (.mk (some 18) none (.pure (.bin .shr (.t 17) (.c (.i .u64 1))))), 
  (.mk (some 19) none (.pure (.bin .shl (.t 18) (.c (.i .u64 2))))), 
  (.mk (some 20) none (.pure (.mv (.t 8)))), 
  (.mk (some 21) none (.pure (.bin .shr (.t 20) (.c (.i .u64 1))))), 
  (.mk (some 22) none (.pure (.bin .or (.t 19) (.t 21)))), 
  (.mk (some 23) none (.pure (.bin .shl (.c (.i .u16 1)) (.t 22)))), 
  (.mk (some 24) none (.pure (.mv (.t 7)))), 
  (.mk (some 25) none (.pure (.bin .and (.t 24) (.c (.i .i64 3))))), 
  (.mk (some 26) none (.pure (.bin .shl (.t 25) (.c (.i .u64 2))))), 
  (.mk (some 27) none (.pure (.mv (.t 8)))), 
  (.mk (some 28) none (.pure (.bin .and (.t 27) (.c (.i .i64 3))))), 
  (.mk (some 29) none (.pure (.bin .or (.t 26) (.t 28)))), 
  (.mk (some 30) none (.pure (.bin .shl (.c (.i .u16 1)) (.t 29)))), 
  (.mk (some 9) none (.pure (.mv (.t 23)))), 
  (.mk (some 10) none (.pure (.mv (.t 30))))]) (.seq (.ops [
  (.mk (some 31) none (.pure (.mv (.t 0)))), 
  (.mk (some 32) none (.pure (.mv (.t 7)))), 
  (.mk (some 33) none (.call 72 [(.t 31), (.t 32)])), 
  (.mk (some 34) none (.pure (.mv (.t 0)))), 
  (.mk (some 35) none (.pure (.mv (.t 8)))), 
  (.mk (some 36) none (.call 72 [(.t 34), (.t 35)])), 
  (.mk (some 37) none (.pure (.bin .eql (.t 33) (.t 36)))), 
  (.mk (some 38) none (.pure (.mv (.t 37)))), 
  (.mk (some 39) (some (38, true)) (.pure (.mv (.t 1)))), 
  (.mk (some 40) (some (38, true)) (.pure (.mv (.t 9)))), 
  (.mk (some 41) (some (38, true)) (.pure (.bin .and (.t 39) (.t 40)))), 
  (.mk (some 42) (some (38, true)) (.pure (.bin .neq (.t 41) (.c (.i .u16 0))))), 
  (.mk (some 43) none (.pure (.pick (.t 38) (.t 42) (.c (.b false))))), 
  (.mk (some 44) none (.pure (.mv (.t 43)))), 
  (.mk (some 45) (some (44, true)) (.pure (.mv (.t 1)))), 
  (.mk (some 46) (some (44, true)) (.pure (.mv (.t 10)))), 
  (.mk (some 47) (some (44, true)) (.pure (.bin .and (.t 45) (.t 46)))), 
  (.mk (some 48) (some (44, true)) (.pure (.bin .neq (.t 47) (.c (.i .u16 0))))), 
  (.mk (some 49) none (.pure (.pick (.t 44) (.t 48) (.c (.b false)))))]) (.cond (.t 49) (.seq (.ops [
  (.mk (some 50) none (.pure (.mv (.t 5)))), 
  (.mk (some 51) none (.pure (.mv (.t 9)))), 
  (.mk (some 52) none (.pure (.bin .or (.t 50) (.t 51)))), 
  (.mk (some 5) none (.pure (.mv (.t 52))))]) (.ops [
  (.mk (some 53) none (.pure (.mv (.t 6)))), 
  (.mk (some 54) none (.pure (.mv (.t 10)))), 
  (.mk (some 55) none (.pure (.bin .or (.t 53) (.t 54)))), 
  (.mk (some 6) none (.pure (.mv (.t 55))))])) .skip))))) (.ops [
  (.mk (some 56) none (.pure (.bin .add (.t 14) (.c (.i .i64 1))))), 
  (.mk (some 14) none (.pure (.mv (.t 56))))]))))))))) (.ops [
  (.mk (some 57) none (.pure (.bin .add (.t 11) (.c (.i .i64 1))))), 
  (.mk (some 11) none (.pure (.mv (.t 57))))]))))))) (.seq (.ops [
  (.mk (some 58) none (.pure (.mv (.t 1)))), 
  (.mk (some 59) none (.pure (.mv (.t 5)))), 
  (.mk (some 60) none (.pure (.bin .and (.t 58) (.t 59)))), 
  (.mk (some 61) none (.pure (.mv (.t 6)))), 
  (.mk (some 62) none (.pure (.bin .and (.t 60) (.t 61)))), 
  (.mk (some 4) none (.pure (.mv (.t 62))))]) .ret)))))
def fn80 : AFn := (AFn.mk 42 [(.t 10)] (.seq (.ops [
  (.mk (some 10) none (.pure (.mv (.c (.b false)))))]) (.seq (.ops [
  (.mk (some 11) none (.pure (.mv (.t 3)))), 
  (.mk (some 12) none (.pure (.bin .quo (.t 11) (.c (.i .i64 2))))), 
  (.mk (some 13) none (.pure (.mv (.t 1)))), 
  (.mk (some 14) none (.pure (.bin .rem (.t 13) (.c (.i .i64 2))))), 
  (.mk (some 15) none (.pure (.bin .eql (.t 12) (.t 14)))), 
  (.mk (some 16) none (.pure (.mv (.t 15)))), 
  (.mk (some 17) (some (16, true)) (.pure (.mv (.t 4)))), 
  (.mk (some 18) (some (16, true)) (.pure (.bin .quo (.t 17) (.c (.i .i64 2))))), 
  (.mk (some 19) (some (16, true)) (.pure (.mv (.t 2)))), 
  (.mk (some 20) (some (16, true)) (.pure (.bin .rem (.t 19) (.c (.i .i64 2))))), 
  (.mk (some 21) (some (16, true)) (.pure (.bin .eql (.t 18) (.t 20)))), 
  (.mk (some 22) none (.pure (.pick (.t 16) (.t 21) (.c (.b false))))), 
  (.mk (some 23) none (.pure (.mv (.t 22)))), 
  (.mk (some 24) (some (23, true)) (.pure (.mv (.t 0)))), 
  (.mk (some 25) (some (23, true)) (.pure (.mv (.t 1)))), 
  (.mk (some 26) (some (23, true)) (.pure (.bin .quo (.t 25) (.c (.i .i64 2))))), 
  (.mk (some 27) (some (23, true)) (.pure (.mv (.t 1)))), 
  (.mk (some 28) (some (23, true)) (.pure (.bin .rem (.t 27) (.c (.i .i64 2))))), 
  (.mk (some 29) (some (23, true)) (.pure (.mv (.t 3)))), 
  (.mk (some 30) (some (23, true)) (.pure (.bin .rem (.t 29) (.c (.i .i64 2))))), 
  (.mk (some 31) (some (23, true)) (.call 49 [(.t 24), (.t 26), (.t 28), (.t 30)])), 
  (.mk (some 32) (some (23, true)) (.pure (.mv (.t 0)))), 
  (.mk (some 33) (some (23, true)) (.pure (.mv (.t 2)))), 
  (.mk (some 34) (some (23, true)) (.pure (.bin .quo (.t 33) (.c (.i .i64 2))))), 
  (.mk (some 35) (some (23, true)) (.pure (.mv (.t 2)))), 
  (.mk (some 36) (some (23, true)) (.pure (.bin .rem (.t 35) (.c (.i .i64 2))))), 
  (.mk (some 37) (some (23, true)) (.pure (.mv (.t 4)))), 
  (.mk (some 38) (some (23, true)) (.pure (.bin .rem (.t 37) (.c (.i .i64 2))))), 
  (.mk (some 39) (some (23, true)) (.call 49 [(.t 32), (.t 34), (.t 36), (.t 38)])), 
  (.mk (some 40) (some (23, true)) (.pure (.bin .eql (.t 31) (.t 39)))), 
  (.mk (some 41) none (.pure (.pick (.t 23) (.t 40) (.c (.b false))))), 
  (.mk (some 10) none (.pure (.mv (.t 41))))]) .ret)))
def fn81 : AFn := (AFn.mk 28 [(.t 4)] (.seq (.ops [
  (.mk (some 4) none (.pure (.mv (.c (.s [])))))]) (.seq (.ops [
  (.mk (some 7) none (.pure (.mv (.t 1)))), 
  (.mk (some 8) none (.mk 5 1 1 [(.i .u8 0)] (.t 7) (.t 7))), 
  (.mk (some 5) none (.pure (.mv (.t 8))))]) (.seq (.seq (.ops [
  (.mk (some 9) none (.pure (.mv (.t 5)))), 
  (.mk (some 10) none (.pure (.len false (.t 9)))), 
  (.mk (some 11) none (.pure (.mv (.c (.i .i64 0)))))]) (.block 0 (.loop (.seq (.ops [
  (.mk (some 12) none (.pure (.bin .lss (.t 11) (.t 10))))]) (.seq (.cond (.t 12) .skip (.exit 0)) (.seq (.block 1 (.seq (.ops [
  (.mk (some 13) none (.pure (.mv (.t 11)))), 
  (.mk (some 6) none (.pure (.mv (.t 13))))]) (.ops [
  (.mk (some 14) none (.pure (.mv (.t 5)))), 
  (.mk (some 15) none (.pure (.mv (.t 6)))), 
  (.mk (some 16) none (.pure (.mv (.t 0)))), 
  (.mk (some 17) none (.pure (.mv (.t 1)))), 
  (.mk (some 18) none (.pure (.bin .sub (.t 17) (.c (.i .i64 1))))), 
  (.mk (some 19) none (.pure (.mv (.t 6)))), 
  (.mk (some 20) none (.pure (.bin .sub (.t 18) (.t 19)))), 
  (.mk (some 21) none (.pure (.bin .shr (.t 16) (.t 20)))), 
  (.mk (some 22) none (.pure (.bin .and (.t 21) (.c (.i .i64 1))))), 
  (.mk (some 23) none (.call 71 [(.t 22)])), 
  (.mk (some 24) none (.pure (.ixS 1 (.t 14) (.t 15)))), 
  (.mk none none (.st 1 (.t 24) (.t 23)))]))) (.ops [
  (.mk (some 25) none (.pure (.bin .add (.t 11) (.c (.i .i64 1))))), 
  (.mk (some 11) none (.pure (.mv (.t 25))))]))))))) (.seq (.ops [
  (.mk (some 26) none (.pure (.mv (.t 5)))), 
  (.mk (some 27) none (.bts (.t 26))), 
  (.mk (some 4) none (.pure (.mv (.t 27))))]) .ret)))))
def fn82 : AFn := (AFn.mk 21 [(.t 4)] (.seq (.ops [
  (.mk (some 4) none (.pure (.mv (.c (.i .u8 0)))))]) (.seq (.ops [
  (.mk (some 5) none (.pure (.mv (.c (.i .u8 0)))))]) (.seq (.seq (.ops [
  (.mk (some 7) none (.pure (.mv (.c (.i .i64 0)))))]) (.block 0 (.loop (.seq (.ops [
  (.mk (some 8) none (.pure (.bin .lss (.t 7) (.c (.i .i64 8)))))]) (.seq (.cond (.t 8) .skip (.exit 0)) (.seq (.block 1 (.seq (.ops [
  (.mk (some 9) none (.pure (.mv (.t 7)))), 
  (.mk (some 6) none (.pure (.mv (.t 9))))]) (.ops [
  (.mk (some 10) none (.pure (.mv (.t 5)))), 
  (.mk (some 11) none (.pure (.mv (.t 1)))), 
  (.mk (some 12) none (.pure (.mv (.t 0)))), 
  (.mk (some 13) none (.pure (.mv (.t 6)))), 
  (.mk (some 14) none (.callv (.t 11) [(.t 12), (.t 13)])), 
  (.mk (some 15) none (.pure (.conv .u8 (.t 14)))), 
  (.mk (some 16) none (.pure (.mv (.t 6)))), 
  (.mk (some 17) none (.pure (.bin .shl (.t 15) (.t 16)))), 
  (.mk (some 18) none (.pure (.bin .or (.t 10) (.t 17)))), 
  (.mk (some 5) none (.pure (.mv (.t 18))))]))) (.ops [
  (.mk (some 19) none (.pure (.bin .add (.t 7) (.c (.i .i64 1))))), 
  (.mk (some 7) none (.pure (.mv (.t 19))))]))))))) (.seq (.ops [
  (.mk (some 20) none (.pure (.mv (.t 5)))), 
  (.mk (some 4) none (.pure (.mv (.t 20))))]) .ret)))))
def fn83 : AFn := (AFn.mk 16 [(.t 4)] (.seq (.ops [
  (.mk (some 4) none (.pure (.mv (.c (.i .i64 0)))))]) (.seq (.ops [
  (.mk (some 5) none (.pure (.mv (.t 0)))), 
  (.mk (some 6) none (.pure (.mv (.t 1)))), 
  (.mk (some 7) none (.pure (.bin .and (.t 6) (.c (.i .i64 1))))), 
  (.mk (some 8) none (.pure (.bin .shl (.t 7) (.c (.i .u64 2))))), 
  (.mk (some 9) none (.pure (.mv (.t 1)))), 
  (.mk (some 10) none (.pure (.bin .and (.t 9) (.c (.i .i64 2))))), 
  (.mk (some 11) none (.pure (.bin .or (.t 8) (.t 10)))), 
  (.mk (some 12) none (.pure (.mv (.t 1)))), 
  (.mk (some 13) none (.pure (.bin .shr (.t 12) (.c (.i .u64 2))))), 
  (.mk (some 14) none (.pure (.bin .or (.t 11) (.t 13)))), 
  (.mk (some 15) none (.call 72 [(.t 5), (.t 14)])), 
  (.mk (some 4) none (.pure (.mv (.t 15))))]) .ret)))
def fn84 : AFn := (AFn.mk 10 [(.t 4)] (.seq (.ops [
  (.mk (some 4) none (.pure (.mv (.c (.i .i64 0)))))]) (.seq (.ops [
  (.mk (some 5) none (.pure (.mv (.t 0)))), 
  (.mk (some 6) none (.pure (.mv (.t 1)))), 
  (.mk (some 7) none (.pure (.bin .sub (.c (.i .i64 7)) (.t 6)))), 
  (.mk (some 8) none (.call 72 [(.t 5), (.t 7)])), 
  (.mk (some 9) none (.pure (.bin .sub (.c (.i .i64 1)) (.t 8)))), 
  (.mk (some 4) none (.pure (.mv (.t 9))))]) .ret)))
def F (f : Nat) : Option AFn := cond (Nat.blt f 53) (cond (Nat.blt f 32) (cond (Nat.blt f 18) (cond (Nat.blt f 13) (cond (Nat.blt f 9) (cond (Nat.beq f 6) (some fn6) none) (cond (Nat.beq f 9) (some fn9) none)) (cond (Nat.blt f 15) (cond (Nat.beq f 13) (some fn13) none) (cond (Nat.blt f 16) (cond (Nat.beq f 15) (some fn15) none) (cond (Nat.beq f 16) (some fn16) none)))) (cond (Nat.blt f 28) (cond (Nat.blt f 20) (cond (Nat.beq f 18) (some fn18) none) (cond (Nat.blt f 26) (cond (Nat.beq f 20) (some fn20) none) (cond (Nat.beq f 26) (some fn26) none))) (cond (Nat.blt f 30) (cond (Nat.beq f 28) (some fn28) none) (cond (Nat.blt f 31) (cond (Nat.beq f 30) (some fn30) none) (cond (Nat.beq f 31) (some fn31) none))))) (cond (Nat.blt f 45) (cond (Nat.blt f 38) (cond (Nat.blt f 33) (cond (Nat.beq f 32) (some fn32) none) (cond (Nat.blt f 36) (cond (Nat.beq f 33) (some fn33) none) (cond (Nat.beq f 36) (some fn36) none))) (cond (Nat.blt f 41) (cond (Nat.beq f 38) (some fn38) none) (cond (Nat.blt f 42) (cond (Nat.beq f 41) (some fn41) none) (cond (Nat.beq f 42) (some fn42) none)))) (cond (Nat.blt f 50) (cond (Nat.blt f 46) (cond (Nat.beq f 45) (some fn45) none) (cond (Nat.blt f 49) (cond (Nat.beq f 46) (some fn46) none) (cond (Nat.beq f 49) (some fn49) none))) (cond (Nat.blt f 51) (cond (Nat.beq f 50) (some fn50) none) (cond (Nat.blt f 52) (cond (Nat.beq f 51) (some fn51) none) (cond (Nat.beq f 52) (some fn52) none)))))) (cond (Nat.blt f 72) (cond (Nat.blt f 66) (cond (Nat.blt f 62) (cond (Nat.blt f 54) (cond (Nat.beq f 53) (some fn53) none) (cond (Nat.blt f 61) (cond (Nat.beq f 54) (some fn54) none) (cond (Nat.beq f 61) (some fn61) none))) (cond (Nat.blt f 64) (cond (Nat.beq f 62) (some fn62) none) (cond (Nat.blt f 65) (cond (Nat.beq f 64) (some fn64) none) (cond (Nat.beq f 65) (some fn65) none)))) (cond (Nat.blt f 69) (cond (Nat.blt f 67) (cond (Nat.beq f 66) (some fn66) none) (cond (Nat.blt f 68) (cond (Nat.beq f 67) (some fn67) none) (cond (Nat.beq f 68) (some fn68) none))) (cond (Nat.blt f 70) (cond (Nat.beq f 69) (some fn69) none) (cond (Nat.blt f 71) (cond (Nat.beq f 70) (some fn70) none) (cond (Nat.beq f 71) (some fn71) none))))) (cond (Nat.blt f 79) (cond (Nat.blt f 75) (cond (Nat.blt f 73) (cond (Nat.beq f 72) (some fn72) none) (cond (Nat.blt f 74) (cond (Nat.beq f 73) (some fn73) none) (cond (Nat.beq f 74) (some fn74) none))) (cond (Nat.blt f 76) (cond (Nat.beq f 75) (some fn75) none) (cond (Nat.blt f 78) (cond (Nat.beq f 76) (some fn76) none) (cond (Nat.beq f 78) (some fn78) none)))) (cond (Nat.blt f 82) (cond (Nat.blt f 80) (cond (Nat.beq f 79) (some fn79) none) (cond (Nat.blt f 81) (cond (Nat.beq f 80) (some fn80) none) (cond (Nat.beq f 81) (some fn81) none))) (cond (Nat.blt f 83) (cond (Nat.beq f 82) (some fn82) none) (cond (Nat.blt f 84) (cond (Nat.beq f 83) (some fn83) none) (cond (Nat.beq f 84) (some fn84) none))))))
end Go.Proofs.Ytgbkicelkpagpaa.W
